/-
  Part 3 of the proof: 4 texts, one behind the other.
-/
import Derived.Test.YtmemnjcpoggdhaaPart2
import Derived.Test.YtmemnjcpoggdhaaPart1
import Derived.Defers
import Derived.Recover
namespace Go.Proofs.Ytmemnjcpoggdhaa
open Go.RowKit
set_option linter.unusedSimpArgs false
set_option linter.unusedVariables false
attribute [local go_sem] Oper.semAt_some

def adjG : List Rn → Bool
  | a :: b :: t => (decide (cmpZ a.f b.f < 0) && !smR a b) && adjG (b :: t)
  | _ => true
theorem adj_drop (l : List Rn) (k : Nat) (h : k + 1 < l.length) : adjG (l.drop k) = ((decide (cmpZ l[k].f l[k+1].f < 0) && !smR l[k] l[k+1]) && adjG (l.drop (k + 1))) := by
  rw [List.drop_eq_getElem_cons (by omega), List.drop_eq_getElem_cons h]
  rfl
theorem adj_end (l : List Rn) (k : Nat) (h : l.length ≤ k + 1) : adjG (l.drop k) = true := by
  have : (l.drop k).length ≤ 1 := by rw [List.length_drop]; omega
  match l.drop k, this with
  | [], _ => rfl
  | [_], _ => rfl
def ioB (d : Nde) : Bool := match d.r.head?, d.r.getLast? with
  | some a, some z => (a.f == 0#128) && (adjG d.r && (z.f >>> d.b.toNat == 0#128))
  | _, _ => false
theorem io_nil (b : Int) : ioB ⟨b, []⟩ = false := rfl
theorem io_one (b : Int) (l : List Rn) (h : l ≠ []) : ioB ⟨b, l⟩ = ((l[0]'(List.length_pos_iff.mpr h)).f == 0#128 && (adjG l && ((l[l.length - 1]'(by have := List.length_pos_iff.mpr h; omega)).f >>> b.toNat == 0#128))) := by
  unfold ioB
  dsimp only
  rw [List.head?_eq_getElem?, List.getLast?_eq_getElem?, List.getElem?_eq_getElem (List.length_pos_iff.mpr h), List.getElem?_eq_getElem (by have := List.length_pos_iff.mpr h; omega)]
def AtD (w : World) (B : Nat) (b : Int) (v : Value) : Prop := w.cell? ⟨B, 0, none⟩ = some (.int .i64 b) ∧ w.cell? ⟨B, 1, none⟩ = some v
theorem AtD.below {w w' : World} {B : Nat} {b : Int} {v : Value} (h : AtD w B b v) (hb : Below w.heap.size w w') : AtD w' B b v := ⟨keepc hb h.1, keepc hb h.2⟩
theorem atd_new (w : World) (b : Int) (v : Value) (T : TypeId) : AtD (w.alloc (.cells #[.int .i64 b, v] T)) w.heap.size b v := by
  refine ⟨?_, ?_⟩ <;> simp [go_sem]
theorem eqWz (x : BitVec 128) (w : World) : (Op.equalIn 10000 66 (.agg #[.int .u64 (hI x), .int .u64 (lI x)]) (.agg #[.int .u64 0, .int .u64 0])).run Try.prog w = .ok (x == 0#128) w := by
  have := eqW_run x 0#128 w
  rwa [hI_zero, lI_zero] at this
set_option maxRecDepth 20000 in
set_option maxHeartbeats 4000000 in
theorem inOrder_any (b : Int) (v : Value) (l : List Rn) (w : World) (hv : RwN w v l) (hl : l.length ≤ 1000000000) :
    Calls Try.prog 102 #[.agg #[.int .i64 b, v]] w fun e w' => e = .returned (.bool (ioB ⟨b, l⟩)) ∧ Below w.heap.size w w' := by
  have q1 := bl1 w (.cells #[.int .i64 b, v] 71)
  have HA := hid13 (atd_new w b v 71)
  obtain ⟨ao, c, rfl, hc, hr⟩ := hv
  by_cases h0 : l = []
  · subst h0
    have HB := hid13 q1
    clear hr q1
    go_enter Try.func102, Try.ntmps102
    go_wp2
    go_ret
    exact ⟨rfl, HB.out⟩
  · have hp := List.length_pos_iff.mpr h0
    rw [io_one b l h0]
    obtain ⟨bb, off, rfl, hcell⟩ : ∃ b off, ao = some ⟨b, off, none⟩ ∧ ∀ j r, l[j]? = some r → RnAt w b (off + j * 4) r := by
      rcases hr with h | h
      · exact absurd h h0
      · exact h
    have HC := hid13 hcell
    have HB := hid13 q1
    have x0 := (((hcell 0 _ (List.getElem?_eq_getElem hp)).below q1))
    obtain ⟨x0, x1, -, -⟩ := x0
    rw [Nat.zero_mul, Nat.add_zero] at x0 x1
    have e1 : ((l.length : Int) == 0) = false := by rw [beq_eq_false_iff_ne]; omega
    have E0 := fun w => eqWz (l[0]).f w
    generalize (l[0]).f = f0 at *
    have hp' : (0 : Int) < (l.length : Int) := by omega
    have HH : Hid (0 < l.length ∧ l.length ≤ 1000000000) := ⟨hp, hl⟩
    clear hcell hr q1
    cases ht : (f0 == 0#128) with
    | false =>
      rw [ht] at E0
      rw [Bool.false_and]
      clear ht
      go_enter Try.func102, Try.ntmps102
      go_wp2
      go_ret
      exact ⟨rfl, HB.out⟩
    | true =>
      rw [ht] at E0
      rw [Bool.true_and]
      clear ht
      go_enter Try.func102, Try.ntmps102
      go_wp2_with fail
      obtain ⟨N, hN⟩ : ∃ N, N = l.length - 1 := ⟨_, rfl⟩
      have HN : Hid (N + 1 = l.length) := by show _ = _; omega
      have HZ : Hid (l.length - 1 = N) := hN.symm
      clear x0 x1 E0 e1 hN
      go_loopw [3] (fun i wr => ∃ k : Nat, k + 1 ≤ l.length ∧ i = .int .i64 ((k + 1 : Nat) : Int) ∧ Hid (adjG (l.drop k) = adjG l) ∧ Hid (Below w.heap.size w wr) ∧ AtD wr w.heap.size b (.slice (some ⟨bb, off, none⟩) l.length c)) (fun i _ => l.length - (intOf i).toNat)
      case atStart => exact ⟨0, by have := HH.out; omega, rfl, (rfl : adjG (l.drop 0) = adjG l), HB, HA.out⟩
      case round =>
        clear HA HB
        obtain ⟨k, hk, rfl, hG, hB, z0, z1⟩ := hrel
        by_cases hlt : ((k + 1 : Nat) : Int) < (l.length : Int)
        · have hks : k + 1 < l.length := by omega
          have hD := hid13 (adj_drop l k hks)
          obtain ⟨r0, r1, r2, r3⟩ := (HC.out k _ (List.getElem?_eq_getElem (by omega)))
          obtain ⟨s0, s1, s2, s3⟩ := (HC.out (k + 1) _ (List.getElem?_eq_getElem hks))
          have r0 := keepc hB.out r0
          have r1 := keepc hB.out r1
          have r2 := keepc hB.out r2
          have r3 := keepc hB.out r3
          have s0 := keepc hB.out s0
          have s1 := keepc hB.out s1
          have s2 := keepc hB.out s2
          have s3 := keepc hB.out s3
          have w1 : IntKind.i64.wrap (k : Int) = (k : Int) := by rw [IntKind.wrap_i64]; have := HH.out; omega
          have b1 : w.heap.size < wr.heap.size := cell_in z0
          have b2 : bb < wr.heap.size := cell_in r0
          have k1 : (k : Int) < (l.length : Int) := by omega
          have KC := fun w => cmp_any l[k].f l[k+1].f w
          have KS := fun w => sayTheSame_any l[k] l[k+1] w
          have hz : cmpZ l[k].f l[k+1].f = -1 ∨ cmpZ l[k].f l[k+1].f = 0 ∨ cmpZ l[k].f l[k+1].f = 1 := by unfold cmpZ; split; exact .inl rfl; split; exact .inr (.inl rfl); exact .inr (.inr rfl)
          generalize l[k] = r at *
          generalize l[k+1] = s at *
          unfold rnV at KS
          generalize cmpZ r.f s.f = z at *
          go_wp2_with fail
          go_region
          · go_wp2_with fail
            refine (KC _).mono ?_
            rintro e w2 ⟨rfl, hb2⟩
            have hb1 := (bl2 wr (.cells #[.int .u64 (hI r.f), .int .u64 (lI r.f), .bool r.k, .int .i64 r.n] 68) (.cells #[.int .u64 (hI s.f), .int .u64 (lI s.f), .bool s.k, .int .i64 s.n] 68)).drew
            have HB2 := hid13 (keepb hb2 (keepb hb1 hB.out))
            have HA2 : Hid (AtD w2 w.heap.size b (.slice (some ⟨bb, off, none⟩) l.length c)) := ⟨keepc hb2 (keepc hb1 z0), keepc hb2 (keepc hb1 z1)⟩
            have HX : Hid (RnAt w2 wr.heap.size 0 r) := RnAt.below (by refine ⟨?_, ?_, ?_, ?_⟩ <;> simp [go_sem]) hb2
            have HY : Hid (RnAt w2 (wr.heap.size + 1) 0 s) := RnAt.below (by refine ⟨?_, ?_, ?_, ?_⟩ <;> simp [go_sem]) hb2
            clear hb1 hb2 z0 z1 KC r0 r1 r2 r3 s0 s1 s2 s3
            rcases hz with rfl | rfl | rfl
            · replace hD : Hid (adjG (l.drop k) = (!smR r s && adjG (l.drop (k + 1)))) := hD
              obtain ⟨a0, a1, a2, a3⟩ := HX.out
              obtain ⟨d0, d1, d2, d3⟩ := HY.out
              go_wp2_with fail
              refine (KS _).mono ?_
              rintro e w3 ⟨rfl, hb3⟩
              have HB3 := hid13 (keepb hb3 HB2.out)
              have HA3 := hid13 (HA2.out.below hb3)
              clear a0 a1 a2 a3 d0 d1 d2 d3 HX HY hb3 KS HA2 HB2
              generalize smR r s = t at *
              cases t with
              | true =>
                have HE : Hid (adjG l = false) := by show _ = _; rw [← hG.out, hD.out]; rfl
                go_wp2
                go_ret
                exact ⟨by rw [HE.out]; rfl, HB3.out⟩
              | false =>
                have HE : Hid (adjG (l.drop (k + 1)) = adjG l) := by show _ = _; rw [← hG.out, hD.out]; rfl
                have w2' : IntKind.i64.wrap (((k + 1 : Nat) : Int) + 1) = ((k + 1 + 1 : Nat) : Int) := by rw [IntKind.wrap_i64]; have := HH.out; omega
                clear hD hG
                go_wp2
                go_roundw
                case rel => exact ⟨k + 1, by omega, by first | rfl | simp, HE, HB3, HA3.out⟩
                case measure => first | (simp [intOf]; omega) | (unfold intOf; simp; omega)
            · have HE : Hid (adjG l = false) := by show _ = _; rw [← hG.out, hD.out]; rfl
              clear hD hG HX HY KS
              go_wp2
              go_ret
              exact ⟨by rw [HE.out]; rfl, HB2.out⟩
            · have HE : Hid (adjG l = false) := by show _ = _; rw [← hG.out, hD.out]; rfl
              clear hD hG HX HY KS
              go_wp2
              go_ret
              exact ⟨by rw [HE.out]; rfl, HB2.out⟩
          · go_wp2_with fail
            refine (KC _).mono ?_
            rintro e w2 ⟨rfl, hb2⟩
            have hb1 := (bl2 wr (.cells #[.int .u64 (hI s.f), .int .u64 (lI s.f), .bool s.k, .int .i64 s.n] 68) (.cells #[.int .u64 (hI r.f), .int .u64 (lI r.f), .bool r.k, .int .i64 r.n] 68)).drew
            have HB2 := hid13 (keepb hb2 (keepb hb1 hB.out))
            have HA2 : Hid (AtD w2 w.heap.size b (.slice (some ⟨bb, off, none⟩) l.length c)) := ⟨keepc hb2 (keepc hb1 z0), keepc hb2 (keepc hb1 z1)⟩
            have HX : Hid (RnAt w2 (wr.heap.size + 1) 0 r) := RnAt.below (by refine ⟨?_, ?_, ?_, ?_⟩ <;> simp [go_sem]) hb2
            have HY : Hid (RnAt w2 wr.heap.size 0 s) := RnAt.below (by refine ⟨?_, ?_, ?_, ?_⟩ <;> simp [go_sem]) hb2
            clear hb1 hb2 z0 z1 KC r0 r1 r2 r3 s0 s1 s2 s3
            rcases hz with rfl | rfl | rfl
            · replace hD : Hid (adjG (l.drop k) = (!smR r s && adjG (l.drop (k + 1)))) := hD
              obtain ⟨a0, a1, a2, a3⟩ := HX.out
              obtain ⟨d0, d1, d2, d3⟩ := HY.out
              go_wp2_with fail
              refine (KS _).mono ?_
              rintro e w3 ⟨rfl, hb3⟩
              have HB3 := hid13 (keepb hb3 HB2.out)
              have HA3 := hid13 (HA2.out.below hb3)
              clear a0 a1 a2 a3 d0 d1 d2 d3 HX HY hb3 KS HA2 HB2
              generalize smR r s = t at *
              cases t with
              | true =>
                have HE : Hid (adjG l = false) := by show _ = _; rw [← hG.out, hD.out]; rfl
                go_wp2
                go_ret
                exact ⟨by rw [HE.out]; rfl, HB3.out⟩
              | false =>
                have HE : Hid (adjG (l.drop (k + 1)) = adjG l) := by show _ = _; rw [← hG.out, hD.out]; rfl
                have w2' : IntKind.i64.wrap (((k + 1 : Nat) : Int) + 1) = ((k + 1 + 1 : Nat) : Int) := by rw [IntKind.wrap_i64]; have := HH.out; omega
                clear hD hG
                go_wp2
                go_roundw
                case rel => exact ⟨k + 1, by omega, by first | rfl | simp, HE, HB3, HA3.out⟩
                case measure => first | (simp [intOf]; omega) | (unfold intOf; simp; omega)
            · have HE : Hid (adjG l = false) := by show _ = _; rw [← hG.out, hD.out]; rfl
              clear hD hG HX HY KS
              go_wp2
              go_ret
              exact ⟨by rw [HE.out]; rfl, HB2.out⟩
            · have HE : Hid (adjG l = false) := by show _ = _; rw [← hG.out, hD.out]; rfl
              clear hD hG HX HY KS
              go_wp2
              go_ret
              exact ⟨by rw [HE.out]; rfl, HB2.out⟩
        · have hkN : k = N := by have := HN.out; omega
          subst hkN
          have HE : Hid (adjG l = true) := by show _ = _; rw [← hG.out]; exact adj_end l k (by omega)
          obtain ⟨r0, r1, r2, r3⟩ := (HC.out k _ (List.getElem?_eq_getElem (by omega)))
          have r0 := keepc hB.out r0
          have r1 := keepc hB.out r1
          have w1 : IntKind.i64.wrap ((l.length : Int) - 1) = (k : Int) := by rw [IntKind.wrap_i64]; have := HH.out; have := HN.out; omega
          have b1 : w.heap.size < wr.heap.size := cell_in z0
          have b2 : bb < wr.heap.size := cell_in r0
          have k1 : (k : Int) < (l.length : Int) := by have := HN.out; omega
          have KS := fun w => shr_any l[k].f b w
          have eZ : l[l.length - 1] = l[k] := by congr 1
          have HF : Hid (l[l.length - 1].f >>> b.toNat = l[k].f >>> b.toNat) := by show _ = _; rw [eZ]
          clear eZ
          have E9 := fun w => eqWz (l[k].f >>> b.toNat) w
          generalize l[k] = r at *
          clear hG HZ
          go_wp2_with fail
          refine (KS _).mono ?_
          rintro e w2 ⟨rfl, hb2⟩
          have HB2 := hid13 (keepb hb2 (keepb (bl1 wr _) hB.out))
          clear hb2 KS r0 r1 z0 z1
          go_wp2
          go_ret
          exact ⟨by rw [HE.out, HF.out]; rfl, HB2.out⟩
end Go.Proofs.Ytmemnjcpoggdhaa
namespace Go.Proofs.Ytmemnjcpoggdhaa
open Go.RowKit
set_option linter.unusedSimpArgs false
set_option linter.unusedVariables false
attribute [local go_sem] Oper.semAt_some

def runsE (i N : Int) : List Rn → Int
  | [] => 0
  | r :: t => if runE r i N = 0 then runsE i N t else runE r i N
theorem runs_drop (i N : Int) (l : List Rn) (k : Nat) (h : k < l.length) : runsE i N (l.drop k) = if runE l[k] i N = 0 then runsE i N (l.drop (k + 1)) else runE l[k] i N := by
  rw [List.drop_eq_getElem_cons h]; rfl
def argB (b N : Int) : Bool := bitsB b && !(decide (b = 0) && decide (1 < N))
def ndeE (d : Nde) (i N : Int) : Int := if argB d.b N = true then (if ioB d = true then runsE i N d.r else 19) else 1
set_option maxRecDepth 20000 in
set_option maxHeartbeats 4000000 in
theorem checkNode_any (v : Value) (L : List Nde) (i : Nat) (d : Nde) (w : World) (hv : RwD w v L) (hd : L[i]? = some d) (hl : L.length ≤ 1000000000) (hr : d.r.length ≤ 1000000000) :
    Calls Try.prog 82 #[v, .int .i64 (i : Int)] w fun e w' => e = .returned (.int .i64 (ndeE d i L.length)) ∧ Below w.heap.size w w' := by
  obtain ⟨ao, c, rfl, hc, hrow⟩ := hv
  have hi : i < L.length := (List.getElem?_eq_some_iff.mp hd).1
  obtain ⟨b, off, rfl, hcell⟩ : ∃ b off, ao = some ⟨b, off, none⟩ ∧ ∀ j d, L[j]? = some d → ∃ vr, w.cell? ⟨b, off + j * 2, none⟩ = some (.int .i64 d.b) ∧ w.cell? ⟨b, off + j * 2 + 1, none⟩ = some vr ∧ RwN w vr d.r := by
    rcases hrow with h | h
    · rw [h] at hi; simp at hi
    · exact h
  obtain ⟨vr, x0, x1, hR⟩ := hcell i d hd
  obtain ⟨db, dr⟩ := d
  have hi' : (i : Int) < (L.length : Int) := by omega
  have q1 := bl1 w (.cells #[.int .i64 db, vr] 71)
  have HA := hid13 (atd_new w db vr 71)
  have HB := hid13 q1
  have HR := hid13 (hR.below q1)
  have KB := fun w => isBits_any db w
  have KO := fun w h => inOrder_any db vr dr w h hr
  have HL : Hid (L.length ≤ 1000000000 ∧ dr.length ≤ 1000000000) := ⟨hl, hr⟩
  unfold ndeE
  dsimp only at *
  clear hcell hrow hR q1
  obtain ⟨vo, vc, hvr, -, -⟩ := id HR.out
  subst hvr
  cases ha : argB db L.length with
  | false =>
    rw [if_neg (by decide)]
    cases hb : bitsB db with
    | false =>
      rw [hb] at KB
      clear ha hb KO
      go_enter Try.func82, Try.ntmps82
      go_wp2_with fail
      refine (KB _).mono ?_
      rintro e w2 ⟨rfl, hw⟩
      subst hw
      go_wp2
      go_ret
      exact ⟨rfl, HB.out⟩
    | true =>
      rw [hb] at KB
      unfold argB at ha
      rw [hb] at ha
      simp at ha
      obtain ⟨h0, h1⟩ := ha
      have h1' : (1 : Int) < (L.length : Int) := by omega
      subst h0
      clear hb KO h1
      go_enter Try.func82, Try.ntmps82
      go_wp2_with fail
      refine (KB _).mono ?_
      rintro e w2 ⟨rfl, hw⟩
      subst hw
      go_wp2
      go_ret
      exact ⟨rfl, HB.out⟩
  | true =>
    rw [if_pos rfl]
    unfold argB at ha
    simp only [Bool.and_eq_true] at ha
    obtain ⟨hb, h2⟩ := ha
    rw [hb] at KB
    have h3 : db ≠ 0 ∨ ¬ (1 : Int) < (L.length : Int) := by
      simp at h2
      rcases h2 with h | h
      · exact .inl h
      · right; omega
    clear h2 hb
    obtain ⟨t, ht⟩ : ∃ t, t = ioB ⟨db, dr⟩ := ⟨_, rfl⟩
    rw [← ht] at KO ⊢
    obtain ⟨E, hE⟩ : ∃ E, E = (if t = true then runsE i L.length dr else 19) := ⟨_, rfl⟩
    rw [← hE]
    have HEE := hid13 hE
    clear ht hE
    go_enter Try.func82, Try.ntmps82
    go_wp2_with fail
    refine (KB _).mono ?_
    rintro e w2 ⟨rfl, hw⟩
    subst hw
    obtain ⟨W, hW⟩ : ∃ W, W = w.alloc (.cells #[.int .i64 db, .slice vo dr.length vc] 71) := ⟨_, rfl⟩
    rw [← hW] at HA HB HR ⊢
    obtain ⟨a0, a1⟩ := HA.out
    have KO := KO _ HR.out
    clear hW KB
    rcases h3 with h3 | h3
    · have e3 : (db == 0) = false := by rw [beq_eq_false_iff_ne]; exact h3
      clear h3
      go_wp2_with fail
      refine KO.mono ?_
      rintro e w3 ⟨rfl, hb3⟩
      have HB3 := hid13 (keepb hb3 HB.out)
      have HR3 := hid13 (HR.out.below hb3)
      have a0 := keepc hb3 a0
      have a1 := keepc hb3 a1
      clear KO hb3 HA HB HR x0 x1
      cases t with
      | false =>
        go_wp2
        go_ret
        exact ⟨by rw [HEE.out]; rfl, HB3.out⟩
      | true =>
        replace HEE : Hid (E = runsE i L.length dr) := HEE
        go_wp2_with fail
        go_loopw [33] (fun i' wr => ∃ k : Nat, k ≤ dr.length ∧ i' = .int .i64 k ∧ Hid (runsE i L.length (dr.drop k) = runsE i L.length dr) ∧ Hid (Below w.heap.size w wr) ∧ Hid (RwN wr (.slice vo dr.length vc) dr)) (fun i' _ => dr.length - (intOf i').toNat)
        case atStart => exact ⟨0, by omega, rfl, (rfl : runsE i L.length (dr.drop 0) = runsE i L.length dr), HB3, HR3⟩
        case round =>
          clear HB3 HR3 a0 a1
          obtain ⟨k, hk, rfl, hG, hB, HRw⟩ := hrel
          by_cases hlt : (k : Int) < (dr.length : Int)
          · have hks : k < dr.length := by omega
            have hD := hid13 (runs_drop (i : Int) (L.length : Int) dr k hks)
            obtain ⟨bb, oo, hvo, hcl⟩ : ∃ b off, vo = some ⟨b, off, none⟩ ∧ ∀ j r, dr[j]? = some r → RnAt wr b (off + j * 4) r := by
              obtain ⟨ao', c', e, hc', hr'⟩ := HRw.out
              injection e with e1 e2 e3
              subst e1
              rcases hr' with h | h
              · rw [h] at hks; simp at hks
              · exact h
            subst hvo
            obtain ⟨r0, r1, r2, r3⟩ := hcl k _ (List.getElem?_eq_getElem hks)
            have KC := fun w => content_any dr[k] w
            have KE := fun w => checkContent_any dr[k] (i : Int) (L.length : Int) w
            generalize dr[k] = r at *
            unfold rnV at KC
            generalize runE r i L.length = ee at *
            generalize cntV r = cv at *
            clear hcl
            go_wp2_with fail
            refine (KC _).mono ?_
            rintro e w4 ⟨rfl, hb4⟩
            have hb5 := keepb hb4 (bl1 wr (.cells #[.int .u64 (hI r.f), .int .u64 (lI r.f), .bool r.k, .int .i64 r.n] 68))
            have HB5 := hid13 (keepb hb5 hB.out)
            have HR5 := hid13 (HRw.out.below hb5)
            clear KC hb4 hb5 r0 r1 r2 r3 HRw
            go_wp2_with fail
            refine (KE _).mono ?_
            rintro e w5 ⟨rfl, hw5⟩
            subst hw5
            clear KE
            by_cases h0 : ee = 0
            · subst h0
              have HE : Hid (runsE i L.length (dr.drop (k + 1)) = runsE i L.length dr) := by show _ = _; rw [← hG.out, hD.out]; rfl
              have hk2 : IntKind.i64.wrap ((k : Int) + 1) = (k : Int) + 1 := by rw [IntKind.wrap_i64]; have := HL.out; omega
              clear hD hG
              go_wp2
              go_roundw
              case rel => exact ⟨k + 1, by omega, by first | rfl | simp, HE, HB5, HR5⟩
              case measure => first | (simp [intOf]; omega) | (unfold intOf; simp; omega)
            · have HE : Hid (runsE i L.length dr = ee) := by show _ = _; rw [← hG.out, hD.out, if_neg h0]
              have hn : (ee != 0) = true := by simp [h0]
              clear hD hG
              go_wp2
              go_ret
              exact ⟨by rw [HEE.out, HE.out]; rfl, HB5.out⟩
          · have HE : Hid (runsE i L.length dr = 0) := by show _ = _; rw [← hG.out, List.drop_eq_nil_of_le (by omega)]; rfl
            clear hG
            go_wp2
            go_ret
            exact ⟨by rw [HEE.out, HE.out]; rfl, hB.out⟩
    · cases e3 : (db == 0) with
      | false =>
        go_wp2_with fail
        refine KO.mono ?_
        rintro e w3 ⟨rfl, hb3⟩
        have HB3 := hid13 (keepb hb3 HB.out)
        have HR3 := hid13 (HR.out.below hb3)
        have a0 := keepc hb3 a0
        have a1 := keepc hb3 a1
        clear KO hb3 HA HB HR x0 x1
        cases t with
        | false =>
          go_wp2
          go_ret
          exact ⟨by rw [HEE.out]; rfl, HB3.out⟩
        | true =>
          replace HEE : Hid (E = runsE i L.length dr) := HEE
          go_wp2_with fail
          go_loopw [33] (fun i' wr => ∃ k : Nat, k ≤ dr.length ∧ i' = .int .i64 k ∧ Hid (runsE i L.length (dr.drop k) = runsE i L.length dr) ∧ Hid (Below w.heap.size w wr) ∧ Hid (RwN wr (.slice vo dr.length vc) dr)) (fun i' _ => dr.length - (intOf i').toNat)
          case atStart => exact ⟨0, by omega, rfl, (rfl : runsE i L.length (dr.drop 0) = runsE i L.length dr), HB3, HR3⟩
          case round =>
            clear HB3 HR3 a0 a1
            obtain ⟨k, hk, rfl, hG, hB, HRw⟩ := hrel
            by_cases hlt : (k : Int) < (dr.length : Int)
            · have hks : k < dr.length := by omega
              have hD := hid13 (runs_drop (i : Int) (L.length : Int) dr k hks)
              obtain ⟨bb, oo, hvo, hcl⟩ : ∃ b off, vo = some ⟨b, off, none⟩ ∧ ∀ j r, dr[j]? = some r → RnAt wr b (off + j * 4) r := by
                obtain ⟨ao', c', e, hc', hr'⟩ := HRw.out
                injection e with e1 e2 e3
                subst e1
                rcases hr' with h | h
                · rw [h] at hks; simp at hks
                · exact h
              subst hvo
              obtain ⟨r0, r1, r2, r3⟩ := hcl k _ (List.getElem?_eq_getElem hks)
              have KC := fun w => content_any dr[k] w
              have KE := fun w => checkContent_any dr[k] (i : Int) (L.length : Int) w
              generalize dr[k] = r at *
              unfold rnV at KC
              generalize runE r i L.length = ee at *
              generalize cntV r = cv at *
              clear hcl
              go_wp2_with fail
              refine (KC _).mono ?_
              rintro e w4 ⟨rfl, hb4⟩
              have hb5 := keepb hb4 (bl1 wr (.cells #[.int .u64 (hI r.f), .int .u64 (lI r.f), .bool r.k, .int .i64 r.n] 68))
              have HB5 := hid13 (keepb hb5 hB.out)
              have HR5 := hid13 (HRw.out.below hb5)
              clear KC hb4 hb5 r0 r1 r2 r3 HRw
              go_wp2_with fail
              refine (KE _).mono ?_
              rintro e w5 ⟨rfl, hw5⟩
              subst hw5
              clear KE
              by_cases h0 : ee = 0
              · subst h0
                have HE : Hid (runsE i L.length (dr.drop (k + 1)) = runsE i L.length dr) := by show _ = _; rw [← hG.out, hD.out]; rfl
                have hk2 : IntKind.i64.wrap ((k : Int) + 1) = (k : Int) + 1 := by rw [IntKind.wrap_i64]; have := HL.out; omega
                clear hD hG
                go_wp2
                go_roundw
                case rel => exact ⟨k + 1, by omega, by first | rfl | simp, HE, HB5, HR5⟩
                case measure => first | (simp [intOf]; omega) | (unfold intOf; simp; omega)
              · have HE : Hid (runsE i L.length dr = ee) := by show _ = _; rw [← hG.out, hD.out, if_neg h0]
                have hn : (ee != 0) = true := by simp [h0]
                clear hD hG
                go_wp2
                go_ret
                exact ⟨by rw [HEE.out, HE.out]; rfl, HB5.out⟩
            · have HE : Hid (runsE i L.length dr = 0) := by show _ = _; rw [← hG.out, List.drop_eq_nil_of_le (by omega)]; rfl
              clear hG
              go_wp2
              go_ret
              exact ⟨by rw [HEE.out, HE.out]; rfl, hB.out⟩
      | true =>
        go_wp2_with fail
        refine KO.mono ?_
        rintro e w3 ⟨rfl, hb3⟩
        have HB3 := hid13 (keepb hb3 HB.out)
        have HR3 := hid13 (HR.out.below hb3)
        have a0 := keepc hb3 a0
        have a1 := keepc hb3 a1
        clear KO hb3 HA HB HR x0 x1
        cases t with
        | false =>
          go_wp2
          go_ret
          exact ⟨by rw [HEE.out]; rfl, HB3.out⟩
        | true =>
          replace HEE : Hid (E = runsE i L.length dr) := HEE
          go_wp2_with fail
          go_loopw [33] (fun i' wr => ∃ k : Nat, k ≤ dr.length ∧ i' = .int .i64 k ∧ Hid (runsE i L.length (dr.drop k) = runsE i L.length dr) ∧ Hid (Below w.heap.size w wr) ∧ Hid (RwN wr (.slice vo dr.length vc) dr)) (fun i' _ => dr.length - (intOf i').toNat)
          case atStart => exact ⟨0, by omega, rfl, (rfl : runsE i L.length (dr.drop 0) = runsE i L.length dr), HB3, HR3⟩
          case round =>
            clear HB3 HR3 a0 a1
            obtain ⟨k, hk, rfl, hG, hB, HRw⟩ := hrel
            by_cases hlt : (k : Int) < (dr.length : Int)
            · have hks : k < dr.length := by omega
              have hD := hid13 (runs_drop (i : Int) (L.length : Int) dr k hks)
              obtain ⟨bb, oo, hvo, hcl⟩ : ∃ b off, vo = some ⟨b, off, none⟩ ∧ ∀ j r, dr[j]? = some r → RnAt wr b (off + j * 4) r := by
                obtain ⟨ao', c', e, hc', hr'⟩ := HRw.out
                injection e with e1 e2 e3
                subst e1
                rcases hr' with h | h
                · rw [h] at hks; simp at hks
                · exact h
              subst hvo
              obtain ⟨r0, r1, r2, r3⟩ := hcl k _ (List.getElem?_eq_getElem hks)
              have KC := fun w => content_any dr[k] w
              have KE := fun w => checkContent_any dr[k] (i : Int) (L.length : Int) w
              generalize dr[k] = r at *
              unfold rnV at KC
              generalize runE r i L.length = ee at *
              generalize cntV r = cv at *
              clear hcl
              go_wp2_with fail
              refine (KC _).mono ?_
              rintro e w4 ⟨rfl, hb4⟩
              have hb5 := keepb hb4 (bl1 wr (.cells #[.int .u64 (hI r.f), .int .u64 (lI r.f), .bool r.k, .int .i64 r.n] 68))
              have HB5 := hid13 (keepb hb5 hB.out)
              have HR5 := hid13 (HRw.out.below hb5)
              clear KC hb4 hb5 r0 r1 r2 r3 HRw
              go_wp2_with fail
              refine (KE _).mono ?_
              rintro e w5 ⟨rfl, hw5⟩
              subst hw5
              clear KE
              by_cases h0 : ee = 0
              · subst h0
                have HE : Hid (runsE i L.length (dr.drop (k + 1)) = runsE i L.length dr) := by show _ = _; rw [← hG.out, hD.out]; rfl
                have hk2 : IntKind.i64.wrap ((k : Int) + 1) = (k : Int) + 1 := by rw [IntKind.wrap_i64]; have := HL.out; omega
                clear hD hG
                go_wp2
                go_roundw
                case rel => exact ⟨k + 1, by omega, by first | rfl | simp, HE, HB5, HR5⟩
                case measure => first | (simp [intOf]; omega) | (unfold intOf; simp; omega)
              · have HE : Hid (runsE i L.length dr = ee) := by show _ = _; rw [← hG.out, hD.out, if_neg h0]
                have hn : (ee != 0) = true := by simp [h0]
                clear hD hG
                go_wp2
                go_ret
                exact ⟨by rw [HEE.out, HE.out]; rfl, HB5.out⟩
            · have HE : Hid (runsE i L.length dr = 0) := by show _ = _; rw [← hG.out, List.drop_eq_nil_of_le (by omega)]; rfl
              clear hG
              go_wp2
              go_ret
              exact ⟨by rw [HEE.out, HE.out]; rfl, hB.out⟩
def ndsE (N : Int) : Nat → List Nde → Int
  | _, [] => 0
  | i, d :: t => if ndeE d i N = 0 then ndsE N (i + 1) t else ndeE d i N
theorem nds_drop (N : Int) (L : List Nde) (k : Nat) (h : k < L.length) : ndsE N k (L.drop k) = if ndeE L[k] k N = 0 then ndsE N (k + 1) (L.drop (k + 1)) else ndeE L[k] k N := by
  rw [List.drop_eq_getElem_cons h]; rfl
def nodesE (L : List Nde) : Int := if L = [] then 2 else ndsE L.length 0 L
set_option maxRecDepth 20000 in
set_option maxHeartbeats 4000000 in
theorem checkNodes_any (v : Value) (L : List Nde) (w : World) (hv : RwD w v L) (hl : L.length ≤ 1000000000) (hr : ∀ d ∈ L, d.r.length ≤ 1000000000) :
    Calls Try.prog 55 #[v] w fun e w' => e = .returned (.int .i64 (nodesE L)) ∧ Below w.heap.size w w' := by
  obtain ⟨ao, c, hvf, -⟩ := id hv
  have HV := hid13 hv
  unfold nodesE
  by_cases h0 : L = []
  · rw [if_pos h0]
    subst h0
    subst hvf
    clear hv
    go_enter Try.func55, Try.ntmps55
    go_wp2
    go_ret
    exact ⟨rfl, Below.refl _ _⟩
  · rw [if_neg h0]
    have hp := List.length_pos_iff.mpr h0
    have e1 : ((L.length : Int) == 0) = false := by rw [beq_eq_false_iff_ne]; omega
    have HL : Hid (L.length ≤ 1000000000 ∧ ∀ d ∈ L, d.r.length ≤ 1000000000) := ⟨hl, hr⟩
    subst hvf
    clear hv hr
    go_enter Try.func55, Try.ntmps55
    go_wp2_with fail
    go_loopw [10] (fun i' wr => ∃ k : Nat, k ≤ L.length ∧ i' = .int .i64 k ∧ Hid (ndsE L.length k (L.drop k) = ndsE L.length 0 L) ∧ Hid (Below w.heap.size w wr)) (fun i' _ => L.length - (intOf i').toNat)
    case atStart => exact ⟨0, by omega, rfl, (rfl : ndsE L.length 0 (L.drop 0) = ndsE L.length 0 L), Below.refl _ _⟩
    case round =>
      obtain ⟨k, hk, rfl, hG, hB⟩ := hrel
      by_cases hlt : (k : Int) < (L.length : Int)
      · have hks : k < L.length := by omega
        have hD := hid13 (nds_drop (L.length : Int) L k hks)
        have KC := checkNode_any (.slice ao L.length c) L k L[k] wr (HV.out.below hB.out) (List.getElem?_eq_getElem hks) HL.out.1 (HL.out.2 _ (List.getElem_mem hks))
        generalize ndeE L[k] k L.length = ee at *
        go_wp2_with fail
        refine KC.mono ?_
        rintro e w4 ⟨rfl, hb4⟩
        have HB5 := hid13 (keepb hb4 hB.out)
        clear KC hb4
        by_cases h0 : ee = 0
        · subst h0
          have HE : Hid (ndsE L.length (k + 1) (L.drop (k + 1)) = ndsE L.length 0 L) := by show _ = _; rw [← hG.out, hD.out]; rfl
          have hk2 : IntKind.i64.wrap ((k : Int) + 1) = (k : Int) + 1 := by rw [IntKind.wrap_i64]; have := HL.out.1; omega
          clear hD hG
          go_wp2
          go_roundw
          case rel => exact ⟨k + 1, by omega, by first | rfl | simp, HE, HB5⟩
          case measure => first | (simp [intOf]; omega) | (unfold intOf; simp; omega)
        · have HE : Hid (ndsE L.length 0 L = ee) := by show _ = _; rw [← hG.out, hD.out, if_neg h0]
          have hn : (ee != 0) = true := by simp [h0]
          clear hD hG
          go_wp2
          go_ret
          exact ⟨by rw [HE.out]; rfl, HB5.out⟩
      · have HE : Hid (ndsE L.length 0 L = 0) := by show _ = _; rw [← hG.out, List.drop_eq_nil_of_le (by omega)]; rfl
        clear hG
        go_wp2
        go_ret
        exact ⟨by rw [HE.out]; rfl, hB.out⟩
end Go.Proofs.Ytmemnjcpoggdhaa
namespace Go.Proofs.Ytmemnjcpoggdhaa
open Go.RowKit
set_option linter.unusedSimpArgs false
set_option linter.unusedVariables false
attribute [local go_sem] Oper.semAt_some

def fwN : List Nde → Nat
  | [] => 0
  | d :: L => 1 + d.r.length + fwN L
theorem fw_take (L : List Nde) (k : Nat) (h : k < L.length) : fwN (L.take (k + 1)) = fwN (L.take k) + 1 + L[k].r.length := by
  induction L generalizing k with
  | nil => simp at h
  | cons d L ih =>
    cases k with
    | zero => simp [fwN]
    | succ k =>
      simp only [List.take_succ_cons, fwN, List.getElem_cons_succ]
      rw [ih k (by simpa using h)]
      omega
theorem fw_mem {L : List Nde} {d : Nde} (h : d ∈ L) : d.r.length < fwN L := by
  induction L with
  | nil => cases h
  | cons e L ih =>
    rcases List.mem_cons.mp h with h | h
    · subst h; simp only [fwN]; omega
    · have := ih h; simp only [fwN]; omega
theorem fw_le {L : List Nde} {K : Nat} (hr : ∀ d ∈ L, d.r.length ≤ K) : ∀ k, fwN (L.take k) ≤ k * (K + 1)
  | 0 => by simp [fwN]
  | k + 1 => by
    have ih := fw_le hr k
    rw [Nat.succ_mul]
    by_cases h : k < L.length
    · rw [fw_take L k h]
      have := hr _ (List.getElem_mem h)
      omega
    · rw [List.take_of_length_le (by omega)]
      rw [List.take_of_length_le (by omega)] at ih
      omega
def fewB (L : List Nde) : Bool := decide (L.length < 500) && decide (fwN (L.take 500) < 5000)
theorem few_ok {L : List Nde} (h : fewB L = true) : L.length < 500 ∧ ∀ d ∈ L, d.r.length < 5000 := by
  unfold fewB at h
  simp only [Bool.and_eq_true, decide_eq_true_eq] at h
  rw [List.take_of_length_le (by omega)] at h
  exact ⟨h.1, fun d hd => by have := fw_mem hd; omega⟩
set_option maxRecDepth 20000 in
set_option maxHeartbeats 4000000 in
theorem few_any (v : Value) (L : List Nde) (w : World) (hv : RwD w v L) (hl : L.length ≤ 140737488355328) (hr : ∀ d ∈ L, d.r.length ≤ 140737488355328) :
    Calls Try.prog 10 #[v] w fun e w' => e = .returned (.bool (fewB L)) ∧ w' = w := by
  obtain ⟨ao, c, rfl, hc, hrow⟩ := hv
  have HC := hid13 hrow
  have HL : Hid (L.length ≤ 140737488355328 ∧ ∀ d ∈ L, d.r.length ≤ 140737488355328) := ⟨hl, hr⟩
  have hl' : (L.length : Int) ≤ 140737488355328 := by omega
  have HF : Hid (fewB L = (decide (L.length < 500) && decide (fwN (L.take 500) < 5000))) := rfl
  generalize fewB L = fb at *
  clear hr hrow hl
  go_enter Try.func10, Try.ntmps10
  go_wp2_with fail
  go_loopw [3, 4] (fun nv kv wr => ∃ k n : Nat, k ≤ L.length ∧ k ≤ 500 ∧ nv = .int .i64 n ∧ kv = .int .i64 k ∧ Hid (n = fwN (L.take k)) ∧ wr = w) (fun _ kv _ => L.length - (intOf kv).toNat)
  case atStart => exact ⟨0, 0, by omega, by omega, rfl, rfl, (rfl : 0 = fwN (L.take 0)), rfl⟩
  case round =>
    obtain ⟨k, n, hk, hk5, rfl, rfl, hN, rfl⟩ := hrel
    have hnb : n ≤ 70368744177664500 := by
      have h1 := fw_le HL.out.2 k
      rw [← hN.out] at h1
      have h2 := Nat.mul_le_mul_right (140737488355328 + 1) hk5
      exact Nat.le_trans h1 (Nat.le_trans h2 (by decide))
    by_cases hlt : (k : Int) < (L.length : Int)
    · by_cases h5 : (k : Int) < 500
      · have hks : k < L.length := by omega
        obtain ⟨b, off, rfl, hcell⟩ := HC.out.resolve_left (by rintro rfl; simp at hks)
        obtain ⟨vr, x0, x1, hR⟩ := hcell k _ (List.getElem?_eq_getElem hks)
        have hrk := HL.out.2 _ (List.getElem_mem hks)
        obtain ⟨vo, vc, hvr, -, -⟩ := hR
        subst hvr
        have ht := fw_take L k hks
        generalize L[k].r.length = m at *
        have m1 : wrap64 ((n : Int) + 1) = (n : Int) + 1 := by unfold wrap64; omega
        have m2 : wrap64 ((n : Int) + 1 + (m : Int)) = (n : Int) + 1 + (m : Int) := by unfold wrap64; omega
        have m3 : wrap64 ((k : Int) + 1) = (k : Int) + 1 := by unfold wrap64; omega
        clear hcell x0
        go_wp2
        go_roundw
        case rel => exact ⟨k + 1, n + 1 + m, by omega, by omega, by push_cast; rfl, by push_cast; rfl, (by rw [ht, ← hN.out] : n + 1 + m = fwN (L.take (k + 1))), trivial⟩
        case measure => first | (simp [intOf]; omega) | (unfold intOf; simp; omega)
      · have hl5 : ¬ (L.length : Int) < 500 := by omega
        have hfb : fb = false := by rw [HF.out]; simp; omega
        subst hfb
        clear HC
        go_wp2
        go_ret
        exact ⟨rfl, rfl⟩
    · have hke : k = L.length := by omega
      subst hke
      by_cases h5 : (L.length : Int) < 500
      · have h5' : L.length < 500 := by omega
        have hF2 := HF.out
        have hN2 := hN.out
        rw [List.take_of_length_le (Nat.le_refl _)] at hN2
        rw [List.take_of_length_le (Nat.le_of_lt h5'), ← hN2] at hF2
        by_cases hn : (n : Int) < 5000
        · have hfb : fb = true := by rw [hF2]; simp; omega
          subst hfb
          clear HC hF2 hN2 HF hN
          go_wp2
          go_ret
          exact ⟨rfl, rfl⟩
        · have hfb : fb = false := by rw [hF2]; simp; omega
          subst hfb
          clear HC hF2 hN2 HF hN
          go_wp2
          go_ret
          exact ⟨rfl, rfl⟩
      · have hfb : fb = false := by rw [HF.out]; simp; omega
        subst hfb
        clear HC
        go_wp2
        go_ret
        exact ⟨rfl, rfl⟩
end Go.Proofs.Ytmemnjcpoggdhaa
namespace Go.Proofs.Ytmemnjcpoggdhaa
open Go.RowKit
set_option linter.unusedSimpArgs false
set_option linter.unusedVariables false

theorem Try.infoU13 : (Try.prog.info? 126).map (fun i => (i.zero, i.size, i.bytes)) = some (some (.int .u32 0), 1, 4) := by kernel_rfl
theorem info13 {P : Program} {t : TypeId} {z : Value} {s b : Nat} (h : (P.info? t).map (fun i => (i.zero, i.size, i.bytes)) = some (some z, s, b)) : ∃ i, P.info? t = some i ∧ i.zero = some z ∧ i.size = s ∧ i.bytes = b := by
  cases hi : P.info? t with
  | none => rw [hi] at h; cases h
  | some i =>
    rw [hi] at h
    simp only [Option.map_some, Option.some.injEq, Prod.mk.injEq] at h
    exact ⟨i, rfl, h.1, h.2.1, h.2.2⟩
theorem own_b13 {base e size n : Nat} {v : Value} {xs : List Value} {W w' : World} (hb : Below W.heap.size W w') (h : W.ownsRow base e size v n xs) : w'.ownsRow base e size v n xs := by
  refine h.kept (row := none) ⟨hb.os, hb.tape, hb.output, hb.size, fun k hk _ => hb.block k hk⟩ ?_
  cases v.ownBlock with
  | none => exact Or.inl rfl
  | some a => exact Or.inr (by simp)
theorem news13 {W : World} {N : Nat} {v : Value} (h : W.cell? ⟨N, 0, none⟩ = some v) : ∀ j u, [v][j]? = some u → W.cell? ((⟨N, 0, none⟩ : Addr).add j) = some u := by
  intro j u hj
  rw [addA, Nat.zero_add]
  match j, hj with
  | 0, hj => simp at hj; subst hj; exact h
end Go.Proofs.Ytmemnjcpoggdhaa
