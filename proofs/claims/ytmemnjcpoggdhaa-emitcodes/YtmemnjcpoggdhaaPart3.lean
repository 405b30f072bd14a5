/-
  Part 3 of the proof: 4 texts, one behind the other.
-/
import Derived.Test.YtmemnjcpoggdhaaPart2
import Derived.Test.YtmemnjcpoggdhaaPart1
import Derived.Defers
import Derived.Recover
import Derived.Lib.AppendZerosOnto
namespace Go.Proofs.Ytmemnjcpoggdhaa
open Go.RowKit
set_option linter.unusedSimpArgs false
set_option linter.unusedVariables false
attribute [local go_sem] Oper.semAt_some

def adjG : List Rn → Bool
  | a :: b :: t => (decide (cmpZ a.f b.f < 0) && !smR a b) && adjG (b :: t)
  | _ => true
theorem adj_drop (l : List Rn) (k : Nat) (h : k + 1 < l.length) : adjG (l.drop k) = ((decide (cmpZ l[k].f l[k+1].f < 0) && !smR l[k] l[k+1]) && adjG (l.drop (k + 1))) := by
  rw [List.drop_eq_getElem_cons (by omega), List.drop_eq_getElem_cons h]
  rfl
theorem adj_end (l : List Rn) (k : Nat) (h : l.length ≤ k + 1) : adjG (l.drop k) = true := by
  have : (l.drop k).length ≤ 1 := by rw [List.length_drop]; omega
  match l.drop k, this with
  | [], _ => rfl
  | [_], _ => rfl
def ioB (d : Nde) : Bool := match d.r.head?, d.r.getLast? with
  | some a, some z => (a.f == 0#128) && (adjG d.r && (z.f >>> d.b.toNat == 0#128))
  | _, _ => false
theorem io_nil (b : Int) : ioB ⟨b, []⟩ = false := rfl
theorem io_one (b : Int) (l : List Rn) (h : l ≠ []) : ioB ⟨b, l⟩ = ((l[0]'(List.length_pos_iff.mpr h)).f == 0#128 && (adjG l && ((l[l.length - 1]'(by have := List.length_pos_iff.mpr h; omega)).f >>> b.toNat == 0#128))) := by
  unfold ioB
  dsimp only
  rw [List.head?_eq_getElem?, List.getLast?_eq_getElem?, List.getElem?_eq_getElem (List.length_pos_iff.mpr h), List.getElem?_eq_getElem (by have := List.length_pos_iff.mpr h; omega)]
def AtD (w : World) (B : Nat) (b : Int) (v : Value) : Prop := w.cell? ⟨B, 0, none⟩ = some (.int .i64 b) ∧ w.cell? ⟨B, 1, none⟩ = some v
theorem AtD.below {w w' : World} {B : Nat} {b : Int} {v : Value} (h : AtD w B b v) (hb : Below w.heap.size w w') : AtD w' B b v := ⟨keepc hb h.1, keepc hb h.2⟩
theorem atd_new (w : World) (b : Int) (v : Value) (T : TypeId) : AtD (w.alloc (.cells #[.int .i64 b, v] T)) w.heap.size b v := by
  refine ⟨?_, ?_⟩ <;> simp [go_sem]
theorem eqWz (x : BitVec 128) (w : World) : (Op.equalIn 10000 66 (.agg #[.int .u64 (hI x), .int .u64 (lI x)]) (.agg #[.int .u64 0, .int .u64 0])).run Try.prog w = .ok (x == 0#128) w := by
  have := eqW_run x 0#128 w
  rwa [hI_zero, lI_zero] at this
set_option maxRecDepth 20000 in
set_option maxHeartbeats 4000000 in
theorem inOrder_any (b : Int) (v : Value) (l : List Rn) (w : World) (hv : RwN w v l) (hl : l.length ≤ 1000000000) :
    Calls Try.prog 102 #[.agg #[.int .i64 b, v]] w fun e w' => e = .returned (.bool (ioB ⟨b, l⟩)) ∧ Below w.heap.size w w' := by
  have q1 := bl1 w (.cells #[.int .i64 b, v] 71)
  have HA := hid13 (atd_new w b v 71)
  obtain ⟨ao, c, rfl, hc, hr⟩ := hv
  by_cases h0 : l = []
  · subst h0
    have HB := hid13 q1
    clear hr q1
    go_enter Try.func102, Try.ntmps102
    go_wp2
    go_ret
    exact ⟨rfl, HB.out⟩
  · have hp := List.length_pos_iff.mpr h0
    rw [io_one b l h0]
    obtain ⟨bb, off, rfl, hcell⟩ : ∃ b off, ao = some ⟨b, off, none⟩ ∧ ∀ j r, l[j]? = some r → RnAt w b (off + j * 4) r := by
      rcases hr with h | h
      · exact absurd h h0
      · exact h
    have HC := hid13 hcell
    have HB := hid13 q1
    have x0 := (((hcell 0 _ (List.getElem?_eq_getElem hp)).below q1))
    obtain ⟨x0, x1, -, -⟩ := x0
    rw [Nat.zero_mul, Nat.add_zero] at x0 x1
    have e1 : ((l.length : Int) == 0) = false := by rw [beq_eq_false_iff_ne]; omega
    have E0 := fun w => eqWz (l[0]).f w
    generalize (l[0]).f = f0 at *
    have hp' : (0 : Int) < (l.length : Int) := by omega
    have HH : Hid (0 < l.length ∧ l.length ≤ 1000000000) := ⟨hp, hl⟩
    clear hcell hr q1
    cases ht : (f0 == 0#128) with
    | false =>
      rw [ht] at E0
      rw [Bool.false_and]
      clear ht
      go_enter Try.func102, Try.ntmps102
      go_wp2
      go_ret
      exact ⟨rfl, HB.out⟩
    | true =>
      rw [ht] at E0
      rw [Bool.true_and]
      clear ht
      go_enter Try.func102, Try.ntmps102
      go_wp2_with fail
      obtain ⟨N, hN⟩ : ∃ N, N = l.length - 1 := ⟨_, rfl⟩
      have HN : Hid (N + 1 = l.length) := by show _ = _; omega
      have HZ : Hid (l.length - 1 = N) := hN.symm
      clear x0 x1 E0 e1 hN
      go_loopw [3] (fun i wr => ∃ k : Nat, k + 1 ≤ l.length ∧ i = .int .i64 ((k + 1 : Nat) : Int) ∧ Hid (adjG (l.drop k) = adjG l) ∧ Hid (Below w.heap.size w wr) ∧ AtD wr w.heap.size b (.slice (some ⟨bb, off, none⟩) l.length c)) (fun i _ => l.length - (intOf i).toNat)
      case atStart => exact ⟨0, by have := HH.out; omega, rfl, (rfl : adjG (l.drop 0) = adjG l), HB, HA.out⟩
      case round =>
        clear HA HB
        obtain ⟨k, hk, rfl, hG, hB, z0, z1⟩ := hrel
        by_cases hlt : ((k + 1 : Nat) : Int) < (l.length : Int)
        · have hks : k + 1 < l.length := by omega
          have hD := hid13 (adj_drop l k hks)
          obtain ⟨r0, r1, r2, r3⟩ := (HC.out k _ (List.getElem?_eq_getElem (by omega)))
          obtain ⟨s0, s1, s2, s3⟩ := (HC.out (k + 1) _ (List.getElem?_eq_getElem hks))
          have r0 := keepc hB.out r0
          have r1 := keepc hB.out r1
          have r2 := keepc hB.out r2
          have r3 := keepc hB.out r3
          have s0 := keepc hB.out s0
          have s1 := keepc hB.out s1
          have s2 := keepc hB.out s2
          have s3 := keepc hB.out s3
          have w1 : IntKind.i64.wrap (k : Int) = (k : Int) := by rw [IntKind.wrap_i64]; have := HH.out; omega
          have b1 : w.heap.size < wr.heap.size := cell_in z0
          have b2 : bb < wr.heap.size := cell_in r0
          have k1 : (k : Int) < (l.length : Int) := by omega
          have KC := fun w => cmp_any l[k].f l[k+1].f w
          have KS := fun w => sayTheSame_any l[k] l[k+1] w
          have hz : cmpZ l[k].f l[k+1].f = -1 ∨ cmpZ l[k].f l[k+1].f = 0 ∨ cmpZ l[k].f l[k+1].f = 1 := by unfold cmpZ; split; exact .inl rfl; split; exact .inr (.inl rfl); exact .inr (.inr rfl)
          generalize l[k] = r at *
          generalize l[k+1] = s at *
          unfold rnV at KS
          generalize cmpZ r.f s.f = z at *
          go_wp2_with fail
          go_region
          · go_wp2_with fail
            refine (KC _).mono ?_
            rintro e w2 ⟨rfl, hb2⟩
            have hb1 := (bl2 wr (.cells #[.int .u64 (hI r.f), .int .u64 (lI r.f), .bool r.k, .int .i64 r.n] 68) (.cells #[.int .u64 (hI s.f), .int .u64 (lI s.f), .bool s.k, .int .i64 s.n] 68)).drew
            have HB2 := hid13 (keepb hb2 (keepb hb1 hB.out))
            have HA2 : Hid (AtD w2 w.heap.size b (.slice (some ⟨bb, off, none⟩) l.length c)) := ⟨keepc hb2 (keepc hb1 z0), keepc hb2 (keepc hb1 z1)⟩
            have HX : Hid (RnAt w2 wr.heap.size 0 r) := RnAt.below (by refine ⟨?_, ?_, ?_, ?_⟩ <;> simp [go_sem]) hb2
            have HY : Hid (RnAt w2 (wr.heap.size + 1) 0 s) := RnAt.below (by refine ⟨?_, ?_, ?_, ?_⟩ <;> simp [go_sem]) hb2
            clear hb1 hb2 z0 z1 KC r0 r1 r2 r3 s0 s1 s2 s3
            rcases hz with rfl | rfl | rfl
            · replace hD : Hid (adjG (l.drop k) = (!smR r s && adjG (l.drop (k + 1)))) := hD
              obtain ⟨a0, a1, a2, a3⟩ := HX.out
              obtain ⟨d0, d1, d2, d3⟩ := HY.out
              go_wp2_with fail
              refine (KS _).mono ?_
              rintro e w3 ⟨rfl, hb3⟩
              have HB3 := hid13 (keepb hb3 HB2.out)
              have HA3 := hid13 (HA2.out.below hb3)
              clear a0 a1 a2 a3 d0 d1 d2 d3 HX HY hb3 KS HA2 HB2
              generalize smR r s = t at *
              cases t with
              | true =>
                have HE : Hid (adjG l = false) := by show _ = _; rw [← hG.out, hD.out]; rfl
                go_wp2
                go_ret
                exact ⟨by rw [HE.out]; rfl, HB3.out⟩
              | false =>
                have HE : Hid (adjG (l.drop (k + 1)) = adjG l) := by show _ = _; rw [← hG.out, hD.out]; rfl
                have w2' : IntKind.i64.wrap (((k + 1 : Nat) : Int) + 1) = ((k + 1 + 1 : Nat) : Int) := by rw [IntKind.wrap_i64]; have := HH.out; omega
                clear hD hG
                go_wp2
                go_roundw
                case rel => exact ⟨k + 1, by omega, by first | rfl | simp, HE, HB3, HA3.out⟩
                case measure => first | (simp [intOf]; omega) | (unfold intOf; simp; omega)
            · have HE : Hid (adjG l = false) := by show _ = _; rw [← hG.out, hD.out]; rfl
              clear hD hG HX HY KS
              go_wp2
              go_ret
              exact ⟨by rw [HE.out]; rfl, HB2.out⟩
            · have HE : Hid (adjG l = false) := by show _ = _; rw [← hG.out, hD.out]; rfl
              clear hD hG HX HY KS
              go_wp2
              go_ret
              exact ⟨by rw [HE.out]; rfl, HB2.out⟩
          · go_wp2_with fail
            refine (KC _).mono ?_
            rintro e w2 ⟨rfl, hb2⟩
            have hb1 := (bl2 wr (.cells #[.int .u64 (hI s.f), .int .u64 (lI s.f), .bool s.k, .int .i64 s.n] 68) (.cells #[.int .u64 (hI r.f), .int .u64 (lI r.f), .bool r.k, .int .i64 r.n] 68)).drew
            have HB2 := hid13 (keepb hb2 (keepb hb1 hB.out))
            have HA2 : Hid (AtD w2 w.heap.size b (.slice (some ⟨bb, off, none⟩) l.length c)) := ⟨keepc hb2 (keepc hb1 z0), keepc hb2 (keepc hb1 z1)⟩
            have HX : Hid (RnAt w2 (wr.heap.size + 1) 0 r) := RnAt.below (by refine ⟨?_, ?_, ?_, ?_⟩ <;> simp [go_sem]) hb2
            have HY : Hid (RnAt w2 wr.heap.size 0 s) := RnAt.below (by refine ⟨?_, ?_, ?_, ?_⟩ <;> simp [go_sem]) hb2
            clear hb1 hb2 z0 z1 KC r0 r1 r2 r3 s0 s1 s2 s3
            rcases hz with rfl | rfl | rfl
            · replace hD : Hid (adjG (l.drop k) = (!smR r s && adjG (l.drop (k + 1)))) := hD
              obtain ⟨a0, a1, a2, a3⟩ := HX.out
              obtain ⟨d0, d1, d2, d3⟩ := HY.out
              go_wp2_with fail
              refine (KS _).mono ?_
              rintro e w3 ⟨rfl, hb3⟩
              have HB3 := hid13 (keepb hb3 HB2.out)
              have HA3 := hid13 (HA2.out.below hb3)
              clear a0 a1 a2 a3 d0 d1 d2 d3 HX HY hb3 KS HA2 HB2
              generalize smR r s = t at *
              cases t with
              | true =>
                have HE : Hid (adjG l = false) := by show _ = _; rw [← hG.out, hD.out]; rfl
                go_wp2
                go_ret
                exact ⟨by rw [HE.out]; rfl, HB3.out⟩
              | false =>
                have HE : Hid (adjG (l.drop (k + 1)) = adjG l) := by show _ = _; rw [← hG.out, hD.out]; rfl
                have w2' : IntKind.i64.wrap (((k + 1 : Nat) : Int) + 1) = ((k + 1 + 1 : Nat) : Int) := by rw [IntKind.wrap_i64]; have := HH.out; omega
                clear hD hG
                go_wp2
                go_roundw
                case rel => exact ⟨k + 1, by omega, by first | rfl | simp, HE, HB3, HA3.out⟩
                case measure => first | (simp [intOf]; omega) | (unfold intOf; simp; omega)
            · have HE : Hid (adjG l = false) := by show _ = _; rw [← hG.out, hD.out]; rfl
              clear hD hG HX HY KS
              go_wp2
              go_ret
              exact ⟨by rw [HE.out]; rfl, HB2.out⟩
            · have HE : Hid (adjG l = false) := by show _ = _; rw [← hG.out, hD.out]; rfl
              clear hD hG HX HY KS
              go_wp2
              go_ret
              exact ⟨by rw [HE.out]; rfl, HB2.out⟩
        · have hkN : k = N := by have := HN.out; omega
          subst hkN
          have HE : Hid (adjG l = true) := by show _ = _; rw [← hG.out]; exact adj_end l k (by omega)
          obtain ⟨r0, r1, r2, r3⟩ := (HC.out k _ (List.getElem?_eq_getElem (by omega)))
          have r0 := keepc hB.out r0
          have r1 := keepc hB.out r1
          have w1 : IntKind.i64.wrap ((l.length : Int) - 1) = (k : Int) := by rw [IntKind.wrap_i64]; have := HH.out; have := HN.out; omega
          have b1 : w.heap.size < wr.heap.size := cell_in z0
          have b2 : bb < wr.heap.size := cell_in r0
          have k1 : (k : Int) < (l.length : Int) := by have := HN.out; omega
          have KS := fun w => shr_any l[k].f b w
          have eZ : l[l.length - 1] = l[k] := by congr 1
          have HF : Hid (l[l.length - 1].f >>> b.toNat = l[k].f >>> b.toNat) := by show _ = _; rw [eZ]
          clear eZ
          have E9 := fun w => eqWz (l[k].f >>> b.toNat) w
          generalize l[k] = r at *
          clear hG HZ
          go_wp2_with fail
          refine (KS _).mono ?_
          rintro e w2 ⟨rfl, hb2⟩
          have HB2 := hid13 (keepb hb2 (keepb (bl1 wr _) hB.out))
          clear hb2 KS r0 r1 z0 z1
          go_wp2
          go_ret
          exact ⟨by rw [HE.out, HF.out]; rfl, HB2.out⟩
end Go.Proofs.Ytmemnjcpoggdhaa
namespace Go.Proofs.Ytmemnjcpoggdhaa
open Go.RowKit
set_option linter.unusedSimpArgs false
set_option linter.unusedVariables false
attribute [local go_sem] Oper.semAt_some

def runsE (i N : Int) : List Rn → Int
  | [] => 0
  | r :: t => if runE r i N = 0 then runsE i N t else runE r i N
theorem runs_drop (i N : Int) (l : List Rn) (k : Nat) (h : k < l.length) : runsE i N (l.drop k) = if runE l[k] i N = 0 then runsE i N (l.drop (k + 1)) else runE l[k] i N := by
  rw [List.drop_eq_getElem_cons h]; rfl
def argB (b N : Int) : Bool := bitsB b && !(decide (b = 0) && decide (1 < N))
def ndeE (d : Nde) (i N : Int) : Int := if argB d.b N = true then (if ioB d = true then runsE i N d.r else 19) else 1
set_option maxRecDepth 20000 in
set_option maxHeartbeats 4000000 in
theorem checkNode_any (v : Value) (L : List Nde) (i : Nat) (d : Nde) (w : World) (hv : RwD w v L) (hd : L[i]? = some d) (hl : L.length ≤ 1000000000) (hr : d.r.length ≤ 1000000000) :
    Calls Try.prog 82 #[v, .int .i64 (i : Int)] w fun e w' => e = .returned (.int .i64 (ndeE d i L.length)) ∧ Below w.heap.size w w' := by
  obtain ⟨ao, c, rfl, hc, hrow⟩ := hv
  have hi : i < L.length := (List.getElem?_eq_some_iff.mp hd).1
  obtain ⟨b, off, rfl, hcell⟩ : ∃ b off, ao = some ⟨b, off, none⟩ ∧ ∀ j d, L[j]? = some d → ∃ vr, w.cell? ⟨b, off + j * 2, none⟩ = some (.int .i64 d.b) ∧ w.cell? ⟨b, off + j * 2 + 1, none⟩ = some vr ∧ RwN w vr d.r := by
    rcases hrow with h | h
    · rw [h] at hi; simp at hi
    · exact h
  obtain ⟨vr, x0, x1, hR⟩ := hcell i d hd
  obtain ⟨db, dr⟩ := d
  have hi' : (i : Int) < (L.length : Int) := by omega
  have q1 := bl1 w (.cells #[.int .i64 db, vr] 71)
  have HA := hid13 (atd_new w db vr 71)
  have HB := hid13 q1
  have HR := hid13 (hR.below q1)
  have KB := fun w => isBits_any db w
  have KO := fun w h => inOrder_any db vr dr w h hr
  have HL : Hid (L.length ≤ 1000000000 ∧ dr.length ≤ 1000000000) := ⟨hl, hr⟩
  unfold ndeE
  dsimp only at *
  clear hcell hrow hR q1
  obtain ⟨vo, vc, hvr, -, -⟩ := id HR.out
  subst hvr
  cases ha : argB db L.length with
  | false =>
    rw [if_neg (by decide)]
    cases hb : bitsB db with
    | false =>
      rw [hb] at KB
      clear ha hb KO
      go_enter Try.func82, Try.ntmps82
      go_wp2_with fail
      refine (KB _).mono ?_
      rintro e w2 ⟨rfl, hw⟩
      subst hw
      go_wp2
      go_ret
      exact ⟨rfl, HB.out⟩
    | true =>
      rw [hb] at KB
      unfold argB at ha
      rw [hb] at ha
      simp at ha
      obtain ⟨h0, h1⟩ := ha
      have h1' : (1 : Int) < (L.length : Int) := by omega
      subst h0
      clear hb KO h1
      go_enter Try.func82, Try.ntmps82
      go_wp2_with fail
      refine (KB _).mono ?_
      rintro e w2 ⟨rfl, hw⟩
      subst hw
      go_wp2
      go_ret
      exact ⟨rfl, HB.out⟩
  | true =>
    rw [if_pos rfl]
    unfold argB at ha
    simp only [Bool.and_eq_true] at ha
    obtain ⟨hb, h2⟩ := ha
    rw [hb] at KB
    have h3 : db ≠ 0 ∨ ¬ (1 : Int) < (L.length : Int) := by
      simp at h2
      rcases h2 with h | h
      · exact .inl h
      · right; omega
    clear h2 hb
    obtain ⟨t, ht⟩ : ∃ t, t = ioB ⟨db, dr⟩ := ⟨_, rfl⟩
    rw [← ht] at KO ⊢
    obtain ⟨E, hE⟩ : ∃ E, E = (if t = true then runsE i L.length dr else 19) := ⟨_, rfl⟩
    rw [← hE]
    have HEE := hid13 hE
    clear ht hE
    go_enter Try.func82, Try.ntmps82
    go_wp2_with fail
    refine (KB _).mono ?_
    rintro e w2 ⟨rfl, hw⟩
    subst hw
    obtain ⟨W, hW⟩ : ∃ W, W = w.alloc (.cells #[.int .i64 db, .slice vo dr.length vc] 71) := ⟨_, rfl⟩
    rw [← hW] at HA HB HR ⊢
    obtain ⟨a0, a1⟩ := HA.out
    have KO := KO _ HR.out
    clear hW KB
    rcases h3 with h3 | h3
    · have e3 : (db == 0) = false := by rw [beq_eq_false_iff_ne]; exact h3
      clear h3
      go_wp2_with fail
      refine KO.mono ?_
      rintro e w3 ⟨rfl, hb3⟩
      have HB3 := hid13 (keepb hb3 HB.out)
      have HR3 := hid13 (HR.out.below hb3)
      have a0 := keepc hb3 a0
      have a1 := keepc hb3 a1
      clear KO hb3 HA HB HR x0 x1
      cases t with
      | false =>
        go_wp2
        go_ret
        exact ⟨by rw [HEE.out]; rfl, HB3.out⟩
      | true =>
        replace HEE : Hid (E = runsE i L.length dr) := HEE
        go_wp2_with fail
        go_loopw [33] (fun i' wr => ∃ k : Nat, k ≤ dr.length ∧ i' = .int .i64 k ∧ Hid (runsE i L.length (dr.drop k) = runsE i L.length dr) ∧ Hid (Below w.heap.size w wr) ∧ Hid (RwN wr (.slice vo dr.length vc) dr)) (fun i' _ => dr.length - (intOf i').toNat)
        case atStart => exact ⟨0, by omega, rfl, (rfl : runsE i L.length (dr.drop 0) = runsE i L.length dr), HB3, HR3⟩
        case round =>
          clear HB3 HR3 a0 a1
          obtain ⟨k, hk, rfl, hG, hB, HRw⟩ := hrel
          by_cases hlt : (k : Int) < (dr.length : Int)
          · have hks : k < dr.length := by omega
            have hD := hid13 (runs_drop (i : Int) (L.length : Int) dr k hks)
            obtain ⟨bb, oo, hvo, hcl⟩ : ∃ b off, vo = some ⟨b, off, none⟩ ∧ ∀ j r, dr[j]? = some r → RnAt wr b (off + j * 4) r := by
              obtain ⟨ao', c', e, hc', hr'⟩ := HRw.out
              injection e with e1 e2 e3
              subst e1
              rcases hr' with h | h
              · rw [h] at hks; simp at hks
              · exact h
            subst hvo
            obtain ⟨r0, r1, r2, r3⟩ := hcl k _ (List.getElem?_eq_getElem hks)
            have KC := fun w => content_any dr[k] w
            have KE := fun w => checkContent_any dr[k] (i : Int) (L.length : Int) w
            generalize dr[k] = r at *
            unfold rnV at KC
            generalize runE r i L.length = ee at *
            generalize cntV r = cv at *
            clear hcl
            go_wp2_with fail
            refine (KC _).mono ?_
            rintro e w4 ⟨rfl, hb4⟩
            have hb5 := keepb hb4 (bl1 wr (.cells #[.int .u64 (hI r.f), .int .u64 (lI r.f), .bool r.k, .int .i64 r.n] 68))
            have HB5 := hid13 (keepb hb5 hB.out)
            have HR5 := hid13 (HRw.out.below hb5)
            clear KC hb4 hb5 r0 r1 r2 r3 HRw
            go_wp2_with fail
            refine (KE _).mono ?_
            rintro e w5 ⟨rfl, hw5⟩
            subst hw5
            clear KE
            by_cases h0 : ee = 0
            · subst h0
              have HE : Hid (runsE i L.length (dr.drop (k + 1)) = runsE i L.length dr) := by show _ = _; rw [← hG.out, hD.out]; rfl
              have hk2 : IntKind.i64.wrap ((k : Int) + 1) = (k : Int) + 1 := by rw [IntKind.wrap_i64]; have := HL.out; omega
              clear hD hG
              go_wp2
              go_roundw
              case rel => exact ⟨k + 1, by omega, by first | rfl | simp, HE, HB5, HR5⟩
              case measure => first | (simp [intOf]; omega) | (unfold intOf; simp; omega)
            · have HE : Hid (runsE i L.length dr = ee) := by show _ = _; rw [← hG.out, hD.out, if_neg h0]
              have hn : (ee != 0) = true := by simp [h0]
              clear hD hG
              go_wp2
              go_ret
              exact ⟨by rw [HEE.out, HE.out]; rfl, HB5.out⟩
          · have HE : Hid (runsE i L.length dr = 0) := by show _ = _; rw [← hG.out, List.drop_eq_nil_of_le (by omega)]; rfl
            clear hG
            go_wp2
            go_ret
            exact ⟨by rw [HEE.out, HE.out]; rfl, hB.out⟩
    · cases e3 : (db == 0) with
      | false =>
        go_wp2_with fail
        refine KO.mono ?_
        rintro e w3 ⟨rfl, hb3⟩
        have HB3 := hid13 (keepb hb3 HB.out)
        have HR3 := hid13 (HR.out.below hb3)
        have a0 := keepc hb3 a0
        have a1 := keepc hb3 a1
        clear KO hb3 HA HB HR x0 x1
        cases t with
        | false =>
          go_wp2
          go_ret
          exact ⟨by rw [HEE.out]; rfl, HB3.out⟩
        | true =>
          replace HEE : Hid (E = runsE i L.length dr) := HEE
          go_wp2_with fail
          go_loopw [33] (fun i' wr => ∃ k : Nat, k ≤ dr.length ∧ i' = .int .i64 k ∧ Hid (runsE i L.length (dr.drop k) = runsE i L.length dr) ∧ Hid (Below w.heap.size w wr) ∧ Hid (RwN wr (.slice vo dr.length vc) dr)) (fun i' _ => dr.length - (intOf i').toNat)
          case atStart => exact ⟨0, by omega, rfl, (rfl : runsE i L.length (dr.drop 0) = runsE i L.length dr), HB3, HR3⟩
          case round =>
            clear HB3 HR3 a0 a1
            obtain ⟨k, hk, rfl, hG, hB, HRw⟩ := hrel
            by_cases hlt : (k : Int) < (dr.length : Int)
            · have hks : k < dr.length := by omega
              have hD := hid13 (runs_drop (i : Int) (L.length : Int) dr k hks)
              obtain ⟨bb, oo, hvo, hcl⟩ : ∃ b off, vo = some ⟨b, off, none⟩ ∧ ∀ j r, dr[j]? = some r → RnAt wr b (off + j * 4) r := by
                obtain ⟨ao', c', e, hc', hr'⟩ := HRw.out
                injection e with e1 e2 e3
                subst e1
                rcases hr' with h | h
                · rw [h] at hks; simp at hks
                · exact h
              subst hvo
              obtain ⟨r0, r1, r2, r3⟩ := hcl k _ (List.getElem?_eq_getElem hks)
              have KC := fun w => content_any dr[k] w
              have KE := fun w => checkContent_any dr[k] (i : Int) (L.length : Int) w
              generalize dr[k] = r at *
              unfold rnV at KC
              generalize runE r i L.length = ee at *
              generalize cntV r = cv at *
              clear hcl
              go_wp2_with fail
              refine (KC _).mono ?_
              rintro e w4 ⟨rfl, hb4⟩
              have hb5 := keepb hb4 (bl1 wr (.cells #[.int .u64 (hI r.f), .int .u64 (lI r.f), .bool r.k, .int .i64 r.n] 68))
              have HB5 := hid13 (keepb hb5 hB.out)
              have HR5 := hid13 (HRw.out.below hb5)
              clear KC hb4 hb5 r0 r1 r2 r3 HRw
              go_wp2_with fail
              refine (KE _).mono ?_
              rintro e w5 ⟨rfl, hw5⟩
              subst hw5
              clear KE
              by_cases h0 : ee = 0
              · subst h0
                have HE : Hid (runsE i L.length (dr.drop (k + 1)) = runsE i L.length dr) := by show _ = _; rw [← hG.out, hD.out]; rfl
                have hk2 : IntKind.i64.wrap ((k : Int) + 1) = (k : Int) + 1 := by rw [IntKind.wrap_i64]; have := HL.out; omega
                clear hD hG
                go_wp2
                go_roundw
                case rel => exact ⟨k + 1, by omega, by first | rfl | simp, HE, HB5, HR5⟩
                case measure => first | (simp [intOf]; omega) | (unfold intOf; simp; omega)
              · have HE : Hid (runsE i L.length dr = ee) := by show _ = _; rw [← hG.out, hD.out, if_neg h0]
                have hn : (ee != 0) = true := by simp [h0]
                clear hD hG
                go_wp2
                go_ret
                exact ⟨by rw [HEE.out, HE.out]; rfl, HB5.out⟩
            · have HE : Hid (runsE i L.length dr = 0) := by show _ = _; rw [← hG.out, List.drop_eq_nil_of_le (by omega)]; rfl
              clear hG
              go_wp2
              go_ret
              exact ⟨by rw [HEE.out, HE.out]; rfl, hB.out⟩
      | true =>
        go_wp2_with fail
        refine KO.mono ?_
        rintro e w3 ⟨rfl, hb3⟩
        have HB3 := hid13 (keepb hb3 HB.out)
        have HR3 := hid13 (HR.out.below hb3)
        have a0 := keepc hb3 a0
        have a1 := keepc hb3 a1
        clear KO hb3 HA HB HR x0 x1
        cases t with
        | false =>
          go_wp2
          go_ret
          exact ⟨by rw [HEE.out]; rfl, HB3.out⟩
        | true =>
          replace HEE : Hid (E = runsE i L.length dr) := HEE
          go_wp2_with fail
          go_loopw [33] (fun i' wr => ∃ k : Nat, k ≤ dr.length ∧ i' = .int .i64 k ∧ Hid (runsE i L.length (dr.drop k) = runsE i L.length dr) ∧ Hid (Below w.heap.size w wr) ∧ Hid (RwN wr (.slice vo dr.length vc) dr)) (fun i' _ => dr.length - (intOf i').toNat)
          case atStart => exact ⟨0, by omega, rfl, (rfl : runsE i L.length (dr.drop 0) = runsE i L.length dr), HB3, HR3⟩
          case round =>
            clear HB3 HR3 a0 a1
            obtain ⟨k, hk, rfl, hG, hB, HRw⟩ := hrel
            by_cases hlt : (k : Int) < (dr.length : Int)
            · have hks : k < dr.length := by omega
              have hD := hid13 (runs_drop (i : Int) (L.length : Int) dr k hks)
              obtain ⟨bb, oo, hvo, hcl⟩ : ∃ b off, vo = some ⟨b, off, none⟩ ∧ ∀ j r, dr[j]? = some r → RnAt wr b (off + j * 4) r := by
                obtain ⟨ao', c', e, hc', hr'⟩ := HRw.out
                injection e with e1 e2 e3
                subst e1
                rcases hr' with h | h
                · rw [h] at hks; simp at hks
                · exact h
              subst hvo
              obtain ⟨r0, r1, r2, r3⟩ := hcl k _ (List.getElem?_eq_getElem hks)
              have KC := fun w => content_any dr[k] w
              have KE := fun w => checkContent_any dr[k] (i : Int) (L.length : Int) w
              generalize dr[k] = r at *
              unfold rnV at KC
              generalize runE r i L.length = ee at *
              generalize cntV r = cv at *
              clear hcl
              go_wp2_with fail
              refine (KC _).mono ?_
              rintro e w4 ⟨rfl, hb4⟩
              have hb5 := keepb hb4 (bl1 wr (.cells #[.int .u64 (hI r.f), .int .u64 (lI r.f), .bool r.k, .int .i64 r.n] 68))
              have HB5 := hid13 (keepb hb5 hB.out)
              have HR5 := hid13 (HRw.out.below hb5)
              clear KC hb4 hb5 r0 r1 r2 r3 HRw
              go_wp2_with fail
              refine (KE _).mono ?_
              rintro e w5 ⟨rfl, hw5⟩
              subst hw5
              clear KE
              by_cases h0 : ee = 0
              · subst h0
                have HE : Hid (runsE i L.length (dr.drop (k + 1)) = runsE i L.length dr) := by show _ = _; rw [← hG.out, hD.out]; rfl
                have hk2 : IntKind.i64.wrap ((k : Int) + 1) = (k : Int) + 1 := by rw [IntKind.wrap_i64]; have := HL.out; omega
                clear hD hG
                go_wp2
                go_roundw
                case rel => exact ⟨k + 1, by omega, by first | rfl | simp, HE, HB5, HR5⟩
                case measure => first | (simp [intOf]; omega) | (unfold intOf; simp; omega)
              · have HE : Hid (runsE i L.length dr = ee) := by show _ = _; rw [← hG.out, hD.out, if_neg h0]
                have hn : (ee != 0) = true := by simp [h0]
                clear hD hG
                go_wp2
                go_ret
                exact ⟨by rw [HEE.out, HE.out]; rfl, HB5.out⟩
            · have HE : Hid (runsE i L.length dr = 0) := by show _ = _; rw [← hG.out, List.drop_eq_nil_of_le (by omega)]; rfl
              clear hG
              go_wp2
              go_ret
              exact ⟨by rw [HEE.out, HE.out]; rfl, hB.out⟩
def ndsE (N : Int) : Nat → List Nde → Int
  | _, [] => 0
  | i, d :: t => if ndeE d i N = 0 then ndsE N (i + 1) t else ndeE d i N
theorem nds_drop (N : Int) (L : List Nde) (k : Nat) (h : k < L.length) : ndsE N k (L.drop k) = if ndeE L[k] k N = 0 then ndsE N (k + 1) (L.drop (k + 1)) else ndeE L[k] k N := by
  rw [List.drop_eq_getElem_cons h]; rfl
def nodesE (L : List Nde) : Int := if L = [] then 2 else ndsE L.length 0 L
set_option maxRecDepth 20000 in
set_option maxHeartbeats 4000000 in
theorem checkNodes_any (v : Value) (L : List Nde) (w : World) (hv : RwD w v L) (hl : L.length ≤ 1000000000) (hr : ∀ d ∈ L, d.r.length ≤ 1000000000) :
    Calls Try.prog 55 #[v] w fun e w' => e = .returned (.int .i64 (nodesE L)) ∧ Below w.heap.size w w' := by
  obtain ⟨ao, c, hvf, -⟩ := id hv
  have HV := hid13 hv
  unfold nodesE
  by_cases h0 : L = []
  · rw [if_pos h0]
    subst h0
    subst hvf
    clear hv
    go_enter Try.func55, Try.ntmps55
    go_wp2
    go_ret
    exact ⟨rfl, Below.refl _ _⟩
  · rw [if_neg h0]
    have hp := List.length_pos_iff.mpr h0
    have e1 : ((L.length : Int) == 0) = false := by rw [beq_eq_false_iff_ne]; omega
    have HL : Hid (L.length ≤ 1000000000 ∧ ∀ d ∈ L, d.r.length ≤ 1000000000) := ⟨hl, hr⟩
    subst hvf
    clear hv hr
    go_enter Try.func55, Try.ntmps55
    go_wp2_with fail
    go_loopw [10] (fun i' wr => ∃ k : Nat, k ≤ L.length ∧ i' = .int .i64 k ∧ Hid (ndsE L.length k (L.drop k) = ndsE L.length 0 L) ∧ Hid (Below w.heap.size w wr)) (fun i' _ => L.length - (intOf i').toNat)
    case atStart => exact ⟨0, by omega, rfl, (rfl : ndsE L.length 0 (L.drop 0) = ndsE L.length 0 L), Below.refl _ _⟩
    case round =>
      obtain ⟨k, hk, rfl, hG, hB⟩ := hrel
      by_cases hlt : (k : Int) < (L.length : Int)
      · have hks : k < L.length := by omega
        have hD := hid13 (nds_drop (L.length : Int) L k hks)
        have KC := checkNode_any (.slice ao L.length c) L k L[k] wr (HV.out.below hB.out) (List.getElem?_eq_getElem hks) HL.out.1 (HL.out.2 _ (List.getElem_mem hks))
        generalize ndeE L[k] k L.length = ee at *
        go_wp2_with fail
        refine KC.mono ?_
        rintro e w4 ⟨rfl, hb4⟩
        have HB5 := hid13 (keepb hb4 hB.out)
        clear KC hb4
        by_cases h0 : ee = 0
        · subst h0
          have HE : Hid (ndsE L.length (k + 1) (L.drop (k + 1)) = ndsE L.length 0 L) := by show _ = _; rw [← hG.out, hD.out]; rfl
          have hk2 : IntKind.i64.wrap ((k : Int) + 1) = (k : Int) + 1 := by rw [IntKind.wrap_i64]; have := HL.out.1; omega
          clear hD hG
          go_wp2
          go_roundw
          case rel => exact ⟨k + 1, by omega, by first | rfl | simp, HE, HB5⟩
          case measure => first | (simp [intOf]; omega) | (unfold intOf; simp; omega)
        · have HE : Hid (ndsE L.length 0 L = ee) := by show _ = _; rw [← hG.out, hD.out, if_neg h0]
          have hn : (ee != 0) = true := by simp [h0]
          clear hD hG
          go_wp2
          go_ret
          exact ⟨by rw [HE.out]; rfl, HB5.out⟩
      · have HE : Hid (ndsE L.length 0 L = 0) := by show _ = _; rw [← hG.out, List.drop_eq_nil_of_le (by omega)]; rfl
        clear hG
        go_wp2
        go_ret
        exact ⟨by rw [HE.out]; rfl, hB.out⟩
end Go.Proofs.Ytmemnjcpoggdhaa
namespace Go.Proofs.Ytmemnjcpoggdhaa
open Go.RowKit
set_option linter.unusedSimpArgs false
set_option linter.unusedVariables false

theorem Try.infoU13 : (Try.prog.info? 126).map (fun i => (i.zero, i.size, i.bytes)) = some (some (.int .u32 0), 1, 4) := by kernel_rfl
theorem info13 {P : Program} {t : TypeId} {z : Value} {s b : Nat} (h : (P.info? t).map (fun i => (i.zero, i.size, i.bytes)) = some (some z, s, b)) : ∃ i, P.info? t = some i ∧ i.zero = some z ∧ i.size = s ∧ i.bytes = b := by
  cases hi : P.info? t with
  | none => rw [hi] at h; cases h
  | some i =>
    rw [hi] at h
    simp only [Option.map_some, Option.some.injEq, Prod.mk.injEq] at h
    exact ⟨i, rfl, h.1, h.2.1, h.2.2⟩
theorem own_b13 {base e size n : Nat} {v : Value} {xs : List Value} {W w' : World} (hb : Below W.heap.size W w') (h : W.ownsRow base e size v n xs) : w'.ownsRow base e size v n xs := by
  refine h.kept (row := none) ⟨hb.os, hb.tape, hb.output, hb.size, fun k hk _ => hb.block k hk⟩ ?_
  cases v.ownBlock with
  | none => exact Or.inl rfl
  | some a => exact Or.inr (by simp)
theorem news13 {W : World} {N : Nat} {v : Value} (h : W.cell? ⟨N, 0, none⟩ = some v) : ∀ j u, [v][j]? = some u → W.cell? ((⟨N, 0, none⟩ : Addr).add j) = some u := by
  intro j u hj
  rw [addA, Nat.zero_add]
  match j, hj with
  | 0, hj => simp at hj; subst hj; exact h
end Go.Proofs.Ytmemnjcpoggdhaa
namespace Go.Proofs.Ytmemnjcpoggdhaa
open Go.RowKit
set_option linter.unusedSimpArgs false
set_option linter.unusedVariables false

theorem Try.infoB13 : (Try.prog.info? 5).map (fun i => (i.zero, i.size, i.bytes)) = some (some (.int .u8 0), 1, 1) := by kernel_rfl
set_option maxRecDepth 100000 in
set_option maxHeartbeats 4000000 in
theorem grow13 (n : Nat) (hn : n ≤ 140737488355328) (w : World) :
    Calls Try.prog 128 #[.slice none 0 0, .int .i64 (n : Int)] w fun e w' => ∃ v, e = .returned v ∧ w'.ownsRow w.heap.size 5 1 v 0 [] ∧ Below w.heap.size w w' := by
  obtain ⟨i0, hi, hz0, hz1, hz2⟩ := info13 Try.infoB13
  have h0 : ¬ ((n : Int) < 0) := by omega
  by_cases c : n = 0
  · subst c
    go_enter Try.func128, Try.ntmps128
    go_wp2
    go_ret
    exact ⟨_, rfl, World.ownsRow_nil _ _ _ _, Below.refl _ _⟩
  · have hold : (Builtin.firstCells i0.size 0 (.slice none 0 0)).run Try.prog w.drew = .ok ([] : List Value).toArray w.drew := run_firstCells_none w.drew i0.size 0 0 0
    have hpos : 0 < (n : Int) := by omega
    have hrz : ∀ ty, (Builtin.append_ #[39, 3] ty #[.slice none 0 0, .int .i64 (n : Int)]).run Try.prog w =
        .ok (.slice (some ⟨w.heap.size, 0, none⟩) (0 + n) (grownCap w (0 + n) 0 5)) (w.drew.alloc (.cells (([] : List Value).toArray ++ Builtin.zeroCells (Value.int .u8 0).cells n ++ Builtin.zeroCells (Value.int .u8 0).cells (grownCap w (0 + n) 0 5 - (0 + n))) 5)) := fun ty =>
      Lib.run_append_grow_zeros w 39 3 ty 5 i0 (.int .u8 0) .i64 .i64 Try.underlying39 Try.underlying3 hi hz0 none 0 0 [] hold n (by omega) (by omega) (by omega) (by omega) (by rw [hz2]; omega)
        (growslice_fits (by omega) (by rw [hz2]; omega))
    obtain ⟨G, hG⟩ : ∃ G, G = grownCap w (0 + n) 0 5 := ⟨_, rfl⟩
    have hGn : 0 + n ≤ G := by rw [hG]; exact grownCap_ge w _ _ _
    have hG63 : G ≤ maxLen := by rw [hG]; exact grownCap_le_maxLen w (0 + n) 0 5 (by unfold maxLen; omega)
    rw [← hG] at hrz
    rw [Nat.zero_add] at hrz hGn
    have HO : Hid ((w.drew.alloc (.cells (([] : List Value).toArray ++ Builtin.zeroCells (Value.int .u8 0).cells n ++ Builtin.zeroCells (Value.int .u8 0).cells (G - n)) 5)).ownsRow w.heap.size 5 1 (.slice (some ⟨w.heap.size, 0, none⟩) 0 G) 0 []) := by
      refine World.ownsRow_made w.drew _ G (Nat.le_refl _) hG63 ?_
      simp only [Array.size_append, size_zeroCells, Value.cells]
      simp; omega
    have HB : Hid (Below w.heap.size w (w.drew.alloc (.cells (([] : List Value).toArray ++ Builtin.zeroCells (Value.int .u8 0).cells n ++ Builtin.zeroCells (Value.int .u8 0).cells (G - n)) 5))) := (Below.refl _ _).drew.alloc (Nat.le_refl _) _
    generalize (w.drew.alloc (.cells (([] : List Value).toArray ++ Builtin.zeroCells (Value.int .u8 0).cells n ++ Builtin.zeroCells (Value.int .u8 0).cells (G - n)) 5)) = W at hrz HO HB
    have hG2 : ((G : Nat) : Int) ≤ 9223372036854775807 := by unfold maxLen at hG63; omega
    clear hG hold
    go_enter Try.func128, Try.ntmps128
    go_wp2_with (at_builtin; refine Lib.wpList_append_run _ rfl _ _ _ _ rfl _ _ rfl rfl _ _ (hrz _) ?_)
    go_ret
    exact ⟨_, rfl, HO.out, HB.out⟩
theorem cB_one (l : List Nat) : ∀ y ∈ l.map cB, y.oneCell' = true := by
  intro y hy
  obtain ⟨x, -, rfl⟩ := List.mem_map.1 hy
  rfl
def allB (P : List (Value × List Nat)) : List Nat := (P.map (·.2)).flatten
theorem allB_take {P : List (Value × List Nat)} {k : Nat} (hk : k < P.length) : allB (P.take (k + 1)) = allB (P.take k) ++ P[k].2 := by
  unfold allB
  rw [List.take_succ_eq_append_getElem hk]
  simp only [List.map_append, List.map_cons, List.map_nil, List.flatten_append, List.flatten_cons, List.flatten_nil, List.append_nil]
theorem allB_le {P : List (Value × List Nat)} (k : Nat) : (allB (P.take k)).length ≤ (allB P).length := by
  have e : allB P = allB (P.take k) ++ allB (P.drop k) := by
    unfold allB
    rw [← List.flatten_append, ← List.map_append, List.take_append_drop]
  rw [e, List.length_append]; omega
set_option maxRecDepth 100000 in
set_option maxHeartbeats 8000000 in
theorem concat13 (v : Value) (P : List (Value × List Nat)) (w : World) (hv : RwX (fun p : Value × List Nat => p.1) w v P) (hP : ∀ p ∈ P, RowA w 1 p.1 p.2.length (p.2.map cB)) (hl : P.length ≤ 1000) (hn : (allB P).length ≤ 140737488355328) :
    Calls Try.prog 125 #[v] w fun e w' => ∃ v', e = .returned v' ∧ w'.ownsRow w.heap.size 5 1 v' (allB P).length ((allB P).map cB) ∧ Below w.heap.size w w' := by
  obtain ⟨i0, hi, hz0, hz1, hz2⟩ := info13 Try.infoB13
  obtain ⟨ao, cc, rfl, hc, hv⟩ := hv
  have HV := hid13 hv
  have HP := hid13 hP
  have HL := hid13 hl
  have HN := hid13 hn
  clear hv hP hc hl hn
  go_enter Try.func125, Try.ntmps125
  go_wp2_with fail
  go_loopg [3, 5, 11] P.length (fun g a b i wr => wr = w ∧ ∃ (k m : Nat), k + g = P.length ∧ a = .int .i64 (m : Int) ∧ i = .int .i64 (k : Int) ∧ Hid (m = (allB (P.take k)).length))
  case atStart => exact ⟨rfl, 0, 0, by omega, rfl, rfl, rfl⟩
  case round =>
    obtain ⟨hw, k, m, hk, rfl, rfl, HM⟩ := hrel
    replace hw := hw.symm
    subst hw
    by_cases hlt : k < P.length
    · have hli : (k : Int) < (P.length : Int) := by omega
      obtain ⟨bo, off, rfl, hcell⟩ : ∃ bo off, ao = some ⟨bo, off, none⟩ ∧ ∀ j x, P[j]? = some x → w.cell? ⟨bo, off + j, none⟩ = some x.1 := by
        rcases HV.out with h | h
        · rw [h] at hlt; simp at hlt
        · exact h
      obtain ⟨q, hq⟩ : ∃ q, q = P[k] := ⟨_, rfl⟩
      have hrd : w.cell? ⟨bo, off + k, none⟩ = some q.1 := hcell k q (by rw [hq]; simp [hlt])
      obtain ⟨-, xo, xc, hform, -⟩ := HP.out q (by rw [hq]; exact List.getElem_mem hlt)
      have hat := allB_take hlt
      have hle := allB_le (P := P) (k + 1)
      rw [hat, List.length_append, ← hq, ← HM.out] at hle
      have HE : Hid (m + q.2.length = (allB (P.take (k + 1))).length) := by show _ = _; rw [hat, List.length_append, ← hq, ← HM.out]
      have hsum : ((m : Int) + (q.2.length : Int)) ≤ 140737488355328 := by have := HN.out; omega
      have mk : IntKind.i64.wrap ((k : Int) + 1) = (k : Int) + 1 := by have := HL.out; rw [IntKind.wrap_i64]; omega
      have mm : IntKind.i64.wrap ((m : Int) + (q.2.length : Int)) = (m : Int) + (q.2.length : Int) := by rw [IntKind.wrap_i64]; omega
      have hnn : ¬ ((m : Int) + (q.2.length : Int) < 0) := by omega
      have HK : Hid (k + gk = P.length ∧ k < P.length) := ⟨hk, hlt⟩
      rw [hform] at hrd
      clear hq hcell hat hle hk HM hform
      go_wp2_with fail
      go_roundg (gk - 1)
      case measure => have := HK.out; omega
      case rel => exact ⟨rfl, k + 1, m + q.2.length, by have := HK.out; omega, rfl, rfl, HE⟩
    · have hli : ¬ (k : Int) < (P.length : Int) := by omega
      have hmn : m ≤ 140737488355328 := by
        have h1 := allB_le (P := P) k
        rw [← HM.out] at h1
        have := HN.out; omega
      clear HM
      go_wp2_with (go_at_call 128; refine (grow13 m hmn _).mono ?_; rintro e w1 ⟨vn, rfl, hown, hb1⟩; have HO := hid13 hown; have HB := hid13 hb1; clear hown hb1)
      go_loopg [6, 8, 27] P.length (fun g a b i wr => ∃ (k : Nat) (va : Value), va = a ∧ k + g = P.length ∧ i = .int .i64 (k : Int) ∧ Hid (wr.ownsRow w.heap.size 5 1 va (allB (P.take k)).length ((allB (P.take k)).map cB) ∧ Below w.heap.size w wr))
      case atStart => exact ⟨0, _, rfl, by omega, rfl, HO.out, HB.out⟩
      case round =>
        clear HO HB
        obtain ⟨k, va, rfl, hk, rfl, HS⟩ := hrel
        by_cases hlt : k < P.length
        · have hli : (k : Int) < (P.length : Int) := by omega
          obtain ⟨bo, off, rfl, hcell⟩ : ∃ bo off, ao = some ⟨bo, off, none⟩ ∧ ∀ j x, P[j]? = some x → w.cell? ⟨bo, off + j, none⟩ = some x.1 := by
            rcases HV.out with h | h
            · rw [h] at hlt; simp at hlt
            · exact h
          obtain ⟨q, hq⟩ : ∃ q, q = P[k] := ⟨_, rfl⟩
          have hrd : wr.cell? ⟨bo, off + k, none⟩ = some q.1 := keepc HS.out.2 (hcell k q (by rw [hq]; simp [hlt]))
          have HA := hid13 ((HP.out q (by rw [hq]; exact List.getElem_mem hlt)).below HS.out.2)
          have hat := allB_take hlt
          have hle := allB_le (P := P) (k + 1)
          rw [hat, List.length_append, ← hq] at hle
          obtain ⟨Z, hZ⟩ : ∃ Z, Z = allB (P.take k) := ⟨_, rfl⟩
          rw [← hZ] at HS hle hat
          rw [← hq] at hat
          have HE := hid13 hat
          have h63 : Z.length + q.2.length ≤ maxLen := by have := HN.out; unfold maxLen; omega
          have h47 : (Z.length + q.2.length) * 1 ≤ 140737488355328 := by have := HN.out; omega
          have mk : IntKind.i64.wrap ((k : Int) + 1) = (k : Int) + 1 := by have := HL.out; rw [IntKind.wrap_i64]; omega
          have HK : Hid (k + gk = P.length ∧ k < P.length) := ⟨hk, hlt⟩
          clear hq hcell hat hle hk hZ
          obtain ⟨qv, ql⟩ := q
          go_wp2_with (at_builtin; apply stopHere9)
          refine (show wpList _ _ _ _ _ _ from ?_)
          refine wpList_append_rowA rfl _ _ 39 rfl w.heap.size 5 i0 (.int .u8 0) 1 1 Try.underlying39 hi hz0 hz1 hz2 rfl (by decide) _ _ _ rfl HS.out.1 qv ql.length (ql.map cB) rfl HA.out (cB_one ql) h63 h47 HS.out.2.size ?_
          intro ao3 cap3 w3 hown3 hgrow
          have HS3 : Hid (w3.ownsRow w.heap.size 5 1 (.slice ao3 (Z.length + ql.length) cap3) (allB (P.take (k + 1))).length ((allB (P.take (k + 1))).map cB) ∧ Below w.heap.size w w3) := by
            rw [HE.out]
            refine ⟨?_, HS.out.2.grown hgrow HS.out.2.size (fun z e => (HS.out.1.lt z e).1)⟩
            rw [List.map_append, List.length_append]; exact hown3
          clear hown3 hgrow HS HA h63 h47 hrd
          go_wp2
          go_roundg (gk - 1)
          case measure => have := HK.out; omega
          case rel => exact ⟨k + 1, _, rfl, by have := HK.out; omega, rfl, HS3⟩
        · have hli : ¬ (k : Int) < (P.length : Int) := by omega
          have HS3 : Hid (wr.ownsRow w.heap.size 5 1 va (allB P).length ((allB P).map cB) ∧ Below w.heap.size w wr) := by
            have := HS.out
            rw [List.take_of_length_le (by omega)] at this
            exact this
          go_wp2_with fail
          go_ret
          exact ⟨_, rfl, HS3.out.1, HS3.out.2⟩
end Go.Proofs.Ytmemnjcpoggdhaa
