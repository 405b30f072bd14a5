/-
  Part 3 of the proof: 17 texts, one behind the other.
-/
import Derived.Test.YtdpfdlkaickkiaaPart2
import Derived.Test.YtdpfdlkaickkiaaPart1
import Derived.Defers
import Derived.Recover
import Derived.Lib.AppendZerosOnto
import Derived.WalkMore
import Derived.ScopeJumps
import Derived.Deep.AppendLies
import Derived.Lib.SlBytesConst
import Derived.Laws.IdiomStrings
import Derived.ArgAppend
import Derived.OrdersIn
import Derived.TacticsIn
import Derived.RangeFuncSeq
namespace Go.Proofs.Ytdpfdlkaickkiaa
open Go.RowKit
set_option linter.unusedSimpArgs false
set_option linter.unusedVariables false
attribute [local go_sem] Oper.semAt_some

def adjG : List Rn → Bool
  | a :: b :: t => (decide (cmpZ a.f b.f < 0) && !smR a b) && adjG (b :: t)
  | _ => true
theorem adj_drop (l : List Rn) (k : Nat) (h : k + 1 < l.length) : adjG (l.drop k) = ((decide (cmpZ l[k].f l[k+1].f < 0) && !smR l[k] l[k+1]) && adjG (l.drop (k + 1))) := by
  rw [List.drop_eq_getElem_cons (by omega), List.drop_eq_getElem_cons h]
  rfl
theorem adj_end (l : List Rn) (k : Nat) (h : l.length ≤ k + 1) : adjG (l.drop k) = true := by
  have : (l.drop k).length ≤ 1 := by rw [List.length_drop]; omega
  match l.drop k, this with
  | [], _ => rfl
  | [_], _ => rfl
def ioB (d : Nde) : Bool := match d.r.head?, d.r.getLast? with
  | some a, some z => (a.f == 0#128) && (adjG d.r && (z.f >>> d.b.toNat == 0#128))
  | _, _ => false
theorem io_nil (b : Int) : ioB ⟨b, []⟩ = false := rfl
theorem io_one (b : Int) (l : List Rn) (h : l ≠ []) : ioB ⟨b, l⟩ = ((l[0]'(List.length_pos_iff.mpr h)).f == 0#128 && (adjG l && ((l[l.length - 1]'(by have := List.length_pos_iff.mpr h; omega)).f >>> b.toNat == 0#128))) := by
  unfold ioB
  dsimp only
  rw [List.head?_eq_getElem?, List.getLast?_eq_getElem?, List.getElem?_eq_getElem (List.length_pos_iff.mpr h), List.getElem?_eq_getElem (by have := List.length_pos_iff.mpr h; omega)]
def AtD (w : World) (B : Nat) (b : Int) (v : Value) : Prop := w.cell? ⟨B, 0, none⟩ = some (.int .i64 b) ∧ w.cell? ⟨B, 1, none⟩ = some v
theorem AtD.below {w w' : World} {B : Nat} {b : Int} {v : Value} (h : AtD w B b v) (hb : Below w.heap.size w w') : AtD w' B b v := ⟨keepc hb h.1, keepc hb h.2⟩
theorem atd_new (w : World) (b : Int) (v : Value) (T : TypeId) : AtD (w.alloc (.cells #[.int .i64 b, v] T)) w.heap.size b v := by
  refine ⟨?_, ?_⟩ <;> simp [go_sem]
theorem eqWz (x : BitVec 128) (w : World) : (Op.equalIn 10000 44 (.agg #[.int .u64 (hI x), .int .u64 (lI x)]) (.agg #[.int .u64 0, .int .u64 0])).run Try.prog w = .ok (x == 0#128) w := by
  have := eqW_run x 0#128 w
  rwa [hI_zero, lI_zero] at this
set_option maxRecDepth 20000 in
set_option maxHeartbeats 4000000 in
theorem inOrder_any (b : Int) (v : Value) (l : List Rn) (w : World) (hv : RwN w v l) (hl : l.length ≤ 1000000000) :
    Calls Try.prog 80 #[.agg #[.int .i64 b, v]] w fun e w' => e = .returned (.bool (ioB ⟨b, l⟩)) ∧ Below w.heap.size w w' := by
  have q1 := bl1 w (.cells #[.int .i64 b, v] 57)
  have HA := hid13 (atd_new w b v 57)
  obtain ⟨ao, c, rfl, hc, hr⟩ := hv
  by_cases h0 : l = []
  · subst h0
    have HB := hid13 q1
    clear hr q1
    go_enter Try.func80, Try.ntmps80
    go_wp2
    go_ret
    exact ⟨rfl, HB.out⟩
  · have hp := List.length_pos_iff.mpr h0
    rw [io_one b l h0]
    obtain ⟨bb, off, rfl, hcell⟩ : ∃ b off, ao = some ⟨b, off, none⟩ ∧ ∀ j r, l[j]? = some r → RnAt w b (off + j * 4) r := by
      rcases hr with h | h
      · exact absurd h h0
      · exact h
    have HC := hid13 hcell
    have HB := hid13 q1
    have x0 := (((hcell 0 _ (List.getElem?_eq_getElem hp)).below q1))
    obtain ⟨x0, x1, -, -⟩ := x0
    rw [Nat.zero_mul, Nat.add_zero] at x0 x1
    have e1 : ((l.length : Int) == 0) = false := by rw [beq_eq_false_iff_ne]; omega
    have E0 := fun w => eqWz (l[0]).f w
    generalize (l[0]).f = f0 at *
    have hp' : (0 : Int) < (l.length : Int) := by omega
    have HH : Hid (0 < l.length ∧ l.length ≤ 1000000000) := ⟨hp, hl⟩
    clear hcell hr q1
    cases ht : (f0 == 0#128) with
    | false =>
      rw [ht] at E0
      rw [Bool.false_and]
      clear ht
      go_enter Try.func80, Try.ntmps80
      go_wp2
      go_ret
      exact ⟨rfl, HB.out⟩
    | true =>
      rw [ht] at E0
      rw [Bool.true_and]
      clear ht
      go_enter Try.func80, Try.ntmps80
      go_wp2_with fail
      obtain ⟨N, hN⟩ : ∃ N, N = l.length - 1 := ⟨_, rfl⟩
      have HN : Hid (N + 1 = l.length) := by show _ = _; omega
      have HZ : Hid (l.length - 1 = N) := hN.symm
      clear x0 x1 E0 e1 hN
      go_loopw [3] (fun i wr => ∃ k : Nat, k + 1 ≤ l.length ∧ i = .int .i64 ((k + 1 : Nat) : Int) ∧ Hid (adjG (l.drop k) = adjG l) ∧ Hid (Below w.heap.size w wr) ∧ AtD wr w.heap.size b (.slice (some ⟨bb, off, none⟩) l.length c)) (fun i _ => l.length - (intOf i).toNat)
      case atStart => exact ⟨0, by have := HH.out; omega, rfl, (rfl : adjG (l.drop 0) = adjG l), HB, HA.out⟩
      case round =>
        clear HA HB
        obtain ⟨k, hk, rfl, hG, hB, z0, z1⟩ := hrel
        by_cases hlt : ((k + 1 : Nat) : Int) < (l.length : Int)
        · have hks : k + 1 < l.length := by omega
          have hD := hid13 (adj_drop l k hks)
          obtain ⟨r0, r1, r2, r3⟩ := (HC.out k _ (List.getElem?_eq_getElem (by omega)))
          obtain ⟨s0, s1, s2, s3⟩ := (HC.out (k + 1) _ (List.getElem?_eq_getElem hks))
          have r0 := keepc hB.out r0
          have r1 := keepc hB.out r1
          have r2 := keepc hB.out r2
          have r3 := keepc hB.out r3
          have s0 := keepc hB.out s0
          have s1 := keepc hB.out s1
          have s2 := keepc hB.out s2
          have s3 := keepc hB.out s3
          have w1 : IntKind.i64.wrap (k : Int) = (k : Int) := by rw [IntKind.wrap_i64]; have := HH.out; omega
          have b1 : w.heap.size < wr.heap.size := cell_in z0
          have b2 : bb < wr.heap.size := cell_in r0
          have k1 : (k : Int) < (l.length : Int) := by omega
          have KC := fun w => cmp_any l[k].f l[k+1].f w
          have KS := fun w => sayTheSame_any l[k] l[k+1] w
          have hz : cmpZ l[k].f l[k+1].f = -1 ∨ cmpZ l[k].f l[k+1].f = 0 ∨ cmpZ l[k].f l[k+1].f = 1 := by unfold cmpZ; split; exact .inl rfl; split; exact .inr (.inl rfl); exact .inr (.inr rfl)
          generalize l[k] = r at *
          generalize l[k+1] = s at *
          unfold rnV at KS
          generalize cmpZ r.f s.f = z at *
          go_wp2_with fail
          go_region
          · go_wp2_with fail
            refine (KC _).mono ?_
            rintro e w2 ⟨rfl, hb2⟩
            have hb1 := (bl2 wr (.cells #[.int .u64 (hI r.f), .int .u64 (lI r.f), .bool r.k, .int .i64 r.n] 54) (.cells #[.int .u64 (hI s.f), .int .u64 (lI s.f), .bool s.k, .int .i64 s.n] 54)).drew
            have HB2 := hid13 (keepb hb2 (keepb hb1 hB.out))
            have HA2 : Hid (AtD w2 w.heap.size b (.slice (some ⟨bb, off, none⟩) l.length c)) := ⟨keepc hb2 (keepc hb1 z0), keepc hb2 (keepc hb1 z1)⟩
            have HX : Hid (RnAt w2 wr.heap.size 0 r) := RnAt.below (by refine ⟨?_, ?_, ?_, ?_⟩ <;> simp [go_sem]) hb2
            have HY : Hid (RnAt w2 (wr.heap.size + 1) 0 s) := RnAt.below (by refine ⟨?_, ?_, ?_, ?_⟩ <;> simp [go_sem]) hb2
            clear hb1 hb2 z0 z1 KC r0 r1 r2 r3 s0 s1 s2 s3
            rcases hz with rfl | rfl | rfl
            · replace hD : Hid (adjG (l.drop k) = (!smR r s && adjG (l.drop (k + 1)))) := hD
              obtain ⟨a0, a1, a2, a3⟩ := HX.out
              obtain ⟨d0, d1, d2, d3⟩ := HY.out
              go_wp2_with fail
              refine (KS _).mono ?_
              rintro e w3 ⟨rfl, hb3⟩
              have HB3 := hid13 (keepb hb3 HB2.out)
              have HA3 := hid13 (HA2.out.below hb3)
              clear a0 a1 a2 a3 d0 d1 d2 d3 HX HY hb3 KS HA2 HB2
              generalize smR r s = t at *
              cases t with
              | true =>
                have HE : Hid (adjG l = false) := by show _ = _; rw [← hG.out, hD.out]; rfl
                go_wp2
                go_ret
                exact ⟨by rw [HE.out]; rfl, HB3.out⟩
              | false =>
                have HE : Hid (adjG (l.drop (k + 1)) = adjG l) := by show _ = _; rw [← hG.out, hD.out]; rfl
                have w2' : IntKind.i64.wrap (((k + 1 : Nat) : Int) + 1) = ((k + 1 + 1 : Nat) : Int) := by rw [IntKind.wrap_i64]; have := HH.out; omega
                clear hD hG
                go_wp2
                go_roundw
                case rel => exact ⟨k + 1, by omega, by first | rfl | simp, HE, HB3, HA3.out⟩
                case measure => first | (simp [intOf]; omega) | (unfold intOf; simp; omega)
            · have HE : Hid (adjG l = false) := by show _ = _; rw [← hG.out, hD.out]; rfl
              clear hD hG HX HY KS
              go_wp2
              go_ret
              exact ⟨by rw [HE.out]; rfl, HB2.out⟩
            · have HE : Hid (adjG l = false) := by show _ = _; rw [← hG.out, hD.out]; rfl
              clear hD hG HX HY KS
              go_wp2
              go_ret
              exact ⟨by rw [HE.out]; rfl, HB2.out⟩
          · go_wp2_with fail
            refine (KC _).mono ?_
            rintro e w2 ⟨rfl, hb2⟩
            have hb1 := (bl2 wr (.cells #[.int .u64 (hI s.f), .int .u64 (lI s.f), .bool s.k, .int .i64 s.n] 54) (.cells #[.int .u64 (hI r.f), .int .u64 (lI r.f), .bool r.k, .int .i64 r.n] 54)).drew
            have HB2 := hid13 (keepb hb2 (keepb hb1 hB.out))
            have HA2 : Hid (AtD w2 w.heap.size b (.slice (some ⟨bb, off, none⟩) l.length c)) := ⟨keepc hb2 (keepc hb1 z0), keepc hb2 (keepc hb1 z1)⟩
            have HX : Hid (RnAt w2 (wr.heap.size + 1) 0 r) := RnAt.below (by refine ⟨?_, ?_, ?_, ?_⟩ <;> simp [go_sem]) hb2
            have HY : Hid (RnAt w2 wr.heap.size 0 s) := RnAt.below (by refine ⟨?_, ?_, ?_, ?_⟩ <;> simp [go_sem]) hb2
            clear hb1 hb2 z0 z1 KC r0 r1 r2 r3 s0 s1 s2 s3
            rcases hz with rfl | rfl | rfl
            · replace hD : Hid (adjG (l.drop k) = (!smR r s && adjG (l.drop (k + 1)))) := hD
              obtain ⟨a0, a1, a2, a3⟩ := HX.out
              obtain ⟨d0, d1, d2, d3⟩ := HY.out
              go_wp2_with fail
              refine (KS _).mono ?_
              rintro e w3 ⟨rfl, hb3⟩
              have HB3 := hid13 (keepb hb3 HB2.out)
              have HA3 := hid13 (HA2.out.below hb3)
              clear a0 a1 a2 a3 d0 d1 d2 d3 HX HY hb3 KS HA2 HB2
              generalize smR r s = t at *
              cases t with
              | true =>
                have HE : Hid (adjG l = false) := by show _ = _; rw [← hG.out, hD.out]; rfl
                go_wp2
                go_ret
                exact ⟨by rw [HE.out]; rfl, HB3.out⟩
              | false =>
                have HE : Hid (adjG (l.drop (k + 1)) = adjG l) := by show _ = _; rw [← hG.out, hD.out]; rfl
                have w2' : IntKind.i64.wrap (((k + 1 : Nat) : Int) + 1) = ((k + 1 + 1 : Nat) : Int) := by rw [IntKind.wrap_i64]; have := HH.out; omega
                clear hD hG
                go_wp2
                go_roundw
                case rel => exact ⟨k + 1, by omega, by first | rfl | simp, HE, HB3, HA3.out⟩
                case measure => first | (simp [intOf]; omega) | (unfold intOf; simp; omega)
            · have HE : Hid (adjG l = false) := by show _ = _; rw [← hG.out, hD.out]; rfl
              clear hD hG HX HY KS
              go_wp2
              go_ret
              exact ⟨by rw [HE.out]; rfl, HB2.out⟩
            · have HE : Hid (adjG l = false) := by show _ = _; rw [← hG.out, hD.out]; rfl
              clear hD hG HX HY KS
              go_wp2
              go_ret
              exact ⟨by rw [HE.out]; rfl, HB2.out⟩
        · have hkN : k = N := by have := HN.out; omega
          subst hkN
          have HE : Hid (adjG l = true) := by show _ = _; rw [← hG.out]; exact adj_end l k (by omega)
          obtain ⟨r0, r1, r2, r3⟩ := (HC.out k _ (List.getElem?_eq_getElem (by omega)))
          have r0 := keepc hB.out r0
          have r1 := keepc hB.out r1
          have w1 : IntKind.i64.wrap ((l.length : Int) - 1) = (k : Int) := by rw [IntKind.wrap_i64]; have := HH.out; have := HN.out; omega
          have b1 : w.heap.size < wr.heap.size := cell_in z0
          have b2 : bb < wr.heap.size := cell_in r0
          have k1 : (k : Int) < (l.length : Int) := by have := HN.out; omega
          have KS := fun w => shr_any l[k].f b w
          have eZ : l[l.length - 1] = l[k] := by congr 1
          have HF : Hid (l[l.length - 1].f >>> b.toNat = l[k].f >>> b.toNat) := by show _ = _; rw [eZ]
          clear eZ
          have E9 := fun w => eqWz (l[k].f >>> b.toNat) w
          generalize l[k] = r at *
          clear hG HZ
          go_wp2_with fail
          refine (KS _).mono ?_
          rintro e w2 ⟨rfl, hb2⟩
          have HB2 := hid13 (keepb hb2 (keepb (bl1 wr _) hB.out))
          clear hb2 KS r0 r1 z0 z1
          go_wp2
          go_ret
          exact ⟨by rw [HE.out, HF.out]; rfl, HB2.out⟩
end Go.Proofs.Ytdpfdlkaickkiaa
namespace Go.Proofs.Ytdpfdlkaickkiaa
open Go.RowKit
set_option linter.unusedSimpArgs false
set_option linter.unusedVariables false
attribute [local go_sem] Oper.semAt_some

def runsE (i N : Int) : List Rn → Int
  | [] => 0
  | r :: t => if runE r i N = 0 then runsE i N t else runE r i N
theorem runs_drop (i N : Int) (l : List Rn) (k : Nat) (h : k < l.length) : runsE i N (l.drop k) = if runE l[k] i N = 0 then runsE i N (l.drop (k + 1)) else runE l[k] i N := by
  rw [List.drop_eq_getElem_cons h]; rfl
def argB (b N : Int) : Bool := bitsB b && !(decide (b = 0) && decide (1 < N))
def ndeE (d : Nde) (i N : Int) : Int := if argB d.b N = true then (if ioB d = true then runsE i N d.r else 19) else 1
set_option maxRecDepth 20000 in
set_option maxHeartbeats 4000000 in
theorem checkNode_any (v : Value) (L : List Nde) (i : Nat) (d : Nde) (w : World) (hv : RwD w v L) (hd : L[i]? = some d) (hl : L.length ≤ 1000000000) (hr : d.r.length ≤ 1000000000) :
    Calls Try.prog 65 #[v, .int .i64 (i : Int)] w fun e w' => e = .returned (.int .i64 (ndeE d i L.length)) ∧ Below w.heap.size w w' := by
  obtain ⟨ao, c, rfl, hc, hrow⟩ := hv
  have hi : i < L.length := (List.getElem?_eq_some_iff.mp hd).1
  obtain ⟨b, off, rfl, hcell⟩ : ∃ b off, ao = some ⟨b, off, none⟩ ∧ ∀ j d, L[j]? = some d → ∃ vr, w.cell? ⟨b, off + j * 2, none⟩ = some (.int .i64 d.b) ∧ w.cell? ⟨b, off + j * 2 + 1, none⟩ = some vr ∧ RwN w vr d.r := by
    rcases hrow with h | h
    · rw [h] at hi; simp at hi
    · exact h
  obtain ⟨vr, x0, x1, hR⟩ := hcell i d hd
  obtain ⟨db, dr⟩ := d
  have hi' : (i : Int) < (L.length : Int) := by omega
  have q1 := bl1 w (.cells #[.int .i64 db, vr] 57)
  have HA := hid13 (atd_new w db vr 57)
  have HB := hid13 q1
  have HR := hid13 (hR.below q1)
  have KB := fun w => isBits_any db w
  have KO := fun w h => inOrder_any db vr dr w h hr
  have HL : Hid (L.length ≤ 1000000000 ∧ dr.length ≤ 1000000000) := ⟨hl, hr⟩
  unfold ndeE
  dsimp only at *
  clear hcell hrow hR q1
  obtain ⟨vo, vc, hvr, -, -⟩ := id HR.out
  subst hvr
  cases ha : argB db L.length with
  | false =>
    rw [if_neg (by decide)]
    cases hb : bitsB db with
    | false =>
      rw [hb] at KB
      clear ha hb KO
      go_enter Try.func65, Try.ntmps65
      go_wp2_with fail
      refine (KB _).mono ?_
      rintro e w2 ⟨rfl, hw⟩
      subst hw
      go_wp2
      go_ret
      exact ⟨rfl, HB.out⟩
    | true =>
      rw [hb] at KB
      unfold argB at ha
      rw [hb] at ha
      simp at ha
      obtain ⟨h0, h1⟩ := ha
      have h1' : (1 : Int) < (L.length : Int) := by omega
      subst h0
      clear hb KO h1
      go_enter Try.func65, Try.ntmps65
      go_wp2_with fail
      refine (KB _).mono ?_
      rintro e w2 ⟨rfl, hw⟩
      subst hw
      go_wp2
      go_ret
      exact ⟨rfl, HB.out⟩
  | true =>
    rw [if_pos rfl]
    unfold argB at ha
    simp only [Bool.and_eq_true] at ha
    obtain ⟨hb, h2⟩ := ha
    rw [hb] at KB
    have h3 : db ≠ 0 ∨ ¬ (1 : Int) < (L.length : Int) := by
      simp at h2
      rcases h2 with h | h
      · exact .inl h
      · right; omega
    clear h2 hb
    obtain ⟨t, ht⟩ : ∃ t, t = ioB ⟨db, dr⟩ := ⟨_, rfl⟩
    rw [← ht] at KO ⊢
    obtain ⟨E, hE⟩ : ∃ E, E = (if t = true then runsE i L.length dr else 19) := ⟨_, rfl⟩
    rw [← hE]
    have HEE := hid13 hE
    clear ht hE
    go_enter Try.func65, Try.ntmps65
    go_wp2_with fail
    refine (KB _).mono ?_
    rintro e w2 ⟨rfl, hw⟩
    subst hw
    obtain ⟨W, hW⟩ : ∃ W, W = w.alloc (.cells #[.int .i64 db, .slice vo dr.length vc] 57) := ⟨_, rfl⟩
    rw [← hW] at HA HB HR ⊢
    obtain ⟨a0, a1⟩ := HA.out
    have KO := KO _ HR.out
    clear hW KB
    rcases h3 with h3 | h3
    · have e3 : (db == 0) = false := by rw [beq_eq_false_iff_ne]; exact h3
      clear h3
      go_wp2_with fail
      refine KO.mono ?_
      rintro e w3 ⟨rfl, hb3⟩
      have HB3 := hid13 (keepb hb3 HB.out)
      have HR3 := hid13 (HR.out.below hb3)
      have a0 := keepc hb3 a0
      have a1 := keepc hb3 a1
      clear KO hb3 HA HB HR x0 x1
      cases t with
      | false =>
        go_wp2
        go_ret
        exact ⟨by rw [HEE.out]; rfl, HB3.out⟩
      | true =>
        replace HEE : Hid (E = runsE i L.length dr) := HEE
        go_wp2_with fail
        go_loopw [33] (fun i' wr => ∃ k : Nat, k ≤ dr.length ∧ i' = .int .i64 k ∧ Hid (runsE i L.length (dr.drop k) = runsE i L.length dr) ∧ Hid (Below w.heap.size w wr) ∧ Hid (RwN wr (.slice vo dr.length vc) dr)) (fun i' _ => dr.length - (intOf i').toNat)
        case atStart => exact ⟨0, by omega, rfl, (rfl : runsE i L.length (dr.drop 0) = runsE i L.length dr), HB3, HR3⟩
        case round =>
          clear HB3 HR3 a0 a1
          obtain ⟨k, hk, rfl, hG, hB, HRw⟩ := hrel
          by_cases hlt : (k : Int) < (dr.length : Int)
          · have hks : k < dr.length := by omega
            have hD := hid13 (runs_drop (i : Int) (L.length : Int) dr k hks)
            obtain ⟨bb, oo, hvo, hcl⟩ : ∃ b off, vo = some ⟨b, off, none⟩ ∧ ∀ j r, dr[j]? = some r → RnAt wr b (off + j * 4) r := by
              obtain ⟨ao', c', e, hc', hr'⟩ := HRw.out
              injection e with e1 e2 e3
              subst e1
              rcases hr' with h | h
              · rw [h] at hks; simp at hks
              · exact h
            subst hvo
            obtain ⟨r0, r1, r2, r3⟩ := hcl k _ (List.getElem?_eq_getElem hks)
            have KC := fun w => content_any dr[k] w
            have KE := fun w => checkContent_any dr[k] (i : Int) (L.length : Int) w
            generalize dr[k] = r at *
            unfold rnV at KC
            generalize runE r i L.length = ee at *
            generalize cntV r = cv at *
            clear hcl
            go_wp2_with fail
            refine (KC _).mono ?_
            rintro e w4 ⟨rfl, hb4⟩
            have hb5 := keepb hb4 (bl1 wr (.cells #[.int .u64 (hI r.f), .int .u64 (lI r.f), .bool r.k, .int .i64 r.n] 54))
            have HB5 := hid13 (keepb hb5 hB.out)
            have HR5 := hid13 (HRw.out.below hb5)
            clear KC hb4 hb5 r0 r1 r2 r3 HRw
            go_wp2_with fail
            refine (KE _).mono ?_
            rintro e w5 ⟨rfl, hw5⟩
            subst hw5
            clear KE
            by_cases h0 : ee = 0
            · subst h0
              have HE : Hid (runsE i L.length (dr.drop (k + 1)) = runsE i L.length dr) := by show _ = _; rw [← hG.out, hD.out]; rfl
              have hk2 : IntKind.i64.wrap ((k : Int) + 1) = (k : Int) + 1 := by rw [IntKind.wrap_i64]; have := HL.out; omega
              clear hD hG
              go_wp2
              go_roundw
              case rel => exact ⟨k + 1, by omega, by first | rfl | simp, HE, HB5, HR5⟩
              case measure => first | (simp [intOf]; omega) | (unfold intOf; simp; omega)
            · have HE : Hid (runsE i L.length dr = ee) := by show _ = _; rw [← hG.out, hD.out, if_neg h0]
              have hn : (ee != 0) = true := by simp [h0]
              clear hD hG
              go_wp2
              go_ret
              exact ⟨by rw [HEE.out, HE.out]; rfl, HB5.out⟩
          · have HE : Hid (runsE i L.length dr = 0) := by show _ = _; rw [← hG.out, List.drop_eq_nil_of_le (by omega)]; rfl
            clear hG
            go_wp2
            go_ret
            exact ⟨by rw [HEE.out, HE.out]; rfl, hB.out⟩
    · cases e3 : (db == 0) with
      | false =>
        go_wp2_with fail
        refine KO.mono ?_
        rintro e w3 ⟨rfl, hb3⟩
        have HB3 := hid13 (keepb hb3 HB.out)
        have HR3 := hid13 (HR.out.below hb3)
        have a0 := keepc hb3 a0
        have a1 := keepc hb3 a1
        clear KO hb3 HA HB HR x0 x1
        cases t with
        | false =>
          go_wp2
          go_ret
          exact ⟨by rw [HEE.out]; rfl, HB3.out⟩
        | true =>
          replace HEE : Hid (E = runsE i L.length dr) := HEE
          go_wp2_with fail
          go_loopw [33] (fun i' wr => ∃ k : Nat, k ≤ dr.length ∧ i' = .int .i64 k ∧ Hid (runsE i L.length (dr.drop k) = runsE i L.length dr) ∧ Hid (Below w.heap.size w wr) ∧ Hid (RwN wr (.slice vo dr.length vc) dr)) (fun i' _ => dr.length - (intOf i').toNat)
          case atStart => exact ⟨0, by omega, rfl, (rfl : runsE i L.length (dr.drop 0) = runsE i L.length dr), HB3, HR3⟩
          case round =>
            clear HB3 HR3 a0 a1
            obtain ⟨k, hk, rfl, hG, hB, HRw⟩ := hrel
            by_cases hlt : (k : Int) < (dr.length : Int)
            · have hks : k < dr.length := by omega
              have hD := hid13 (runs_drop (i : Int) (L.length : Int) dr k hks)
              obtain ⟨bb, oo, hvo, hcl⟩ : ∃ b off, vo = some ⟨b, off, none⟩ ∧ ∀ j r, dr[j]? = some r → RnAt wr b (off + j * 4) r := by
                obtain ⟨ao', c', e, hc', hr'⟩ := HRw.out
                injection e with e1 e2 e3
                subst e1
                rcases hr' with h | h
                · rw [h] at hks; simp at hks
                · exact h
              subst hvo
              obtain ⟨r0, r1, r2, r3⟩ := hcl k _ (List.getElem?_eq_getElem hks)
              have KC := fun w => content_any dr[k] w
              have KE := fun w => checkContent_any dr[k] (i : Int) (L.length : Int) w
              generalize dr[k] = r at *
              unfold rnV at KC
              generalize runE r i L.length = ee at *
              generalize cntV r = cv at *
              clear hcl
              go_wp2_with fail
              refine (KC _).mono ?_
              rintro e w4 ⟨rfl, hb4⟩
              have hb5 := keepb hb4 (bl1 wr (.cells #[.int .u64 (hI r.f), .int .u64 (lI r.f), .bool r.k, .int .i64 r.n] 54))
              have HB5 := hid13 (keepb hb5 hB.out)
              have HR5 := hid13 (HRw.out.below hb5)
              clear KC hb4 hb5 r0 r1 r2 r3 HRw
              go_wp2_with fail
              refine (KE _).mono ?_
              rintro e w5 ⟨rfl, hw5⟩
              subst hw5
              clear KE
              by_cases h0 : ee = 0
              · subst h0
                have HE : Hid (runsE i L.length (dr.drop (k + 1)) = runsE i L.length dr) := by show _ = _; rw [← hG.out, hD.out]; rfl
                have hk2 : IntKind.i64.wrap ((k : Int) + 1) = (k : Int) + 1 := by rw [IntKind.wrap_i64]; have := HL.out; omega
                clear hD hG
                go_wp2
                go_roundw
                case rel => exact ⟨k + 1, by omega, by first | rfl | simp, HE, HB5, HR5⟩
                case measure => first | (simp [intOf]; omega) | (unfold intOf; simp; omega)
              · have HE : Hid (runsE i L.length dr = ee) := by show _ = _; rw [← hG.out, hD.out, if_neg h0]
                have hn : (ee != 0) = true := by simp [h0]
                clear hD hG
                go_wp2
                go_ret
                exact ⟨by rw [HEE.out, HE.out]; rfl, HB5.out⟩
            · have HE : Hid (runsE i L.length dr = 0) := by show _ = _; rw [← hG.out, List.drop_eq_nil_of_le (by omega)]; rfl
              clear hG
              go_wp2
              go_ret
              exact ⟨by rw [HEE.out, HE.out]; rfl, hB.out⟩
      | true =>
        go_wp2_with fail
        refine KO.mono ?_
        rintro e w3 ⟨rfl, hb3⟩
        have HB3 := hid13 (keepb hb3 HB.out)
        have HR3 := hid13 (HR.out.below hb3)
        have a0 := keepc hb3 a0
        have a1 := keepc hb3 a1
        clear KO hb3 HA HB HR x0 x1
        cases t with
        | false =>
          go_wp2
          go_ret
          exact ⟨by rw [HEE.out]; rfl, HB3.out⟩
        | true =>
          replace HEE : Hid (E = runsE i L.length dr) := HEE
          go_wp2_with fail
          go_loopw [33] (fun i' wr => ∃ k : Nat, k ≤ dr.length ∧ i' = .int .i64 k ∧ Hid (runsE i L.length (dr.drop k) = runsE i L.length dr) ∧ Hid (Below w.heap.size w wr) ∧ Hid (RwN wr (.slice vo dr.length vc) dr)) (fun i' _ => dr.length - (intOf i').toNat)
          case atStart => exact ⟨0, by omega, rfl, (rfl : runsE i L.length (dr.drop 0) = runsE i L.length dr), HB3, HR3⟩
          case round =>
            clear HB3 HR3 a0 a1
            obtain ⟨k, hk, rfl, hG, hB, HRw⟩ := hrel
            by_cases hlt : (k : Int) < (dr.length : Int)
            · have hks : k < dr.length := by omega
              have hD := hid13 (runs_drop (i : Int) (L.length : Int) dr k hks)
              obtain ⟨bb, oo, hvo, hcl⟩ : ∃ b off, vo = some ⟨b, off, none⟩ ∧ ∀ j r, dr[j]? = some r → RnAt wr b (off + j * 4) r := by
                obtain ⟨ao', c', e, hc', hr'⟩ := HRw.out
                injection e with e1 e2 e3
                subst e1
                rcases hr' with h | h
                · rw [h] at hks; simp at hks
                · exact h
              subst hvo
              obtain ⟨r0, r1, r2, r3⟩ := hcl k _ (List.getElem?_eq_getElem hks)
              have KC := fun w => content_any dr[k] w
              have KE := fun w => checkContent_any dr[k] (i : Int) (L.length : Int) w
              generalize dr[k] = r at *
              unfold rnV at KC
              generalize runE r i L.length = ee at *
              generalize cntV r = cv at *
              clear hcl
              go_wp2_with fail
              refine (KC _).mono ?_
              rintro e w4 ⟨rfl, hb4⟩
              have hb5 := keepb hb4 (bl1 wr (.cells #[.int .u64 (hI r.f), .int .u64 (lI r.f), .bool r.k, .int .i64 r.n] 54))
              have HB5 := hid13 (keepb hb5 hB.out)
              have HR5 := hid13 (HRw.out.below hb5)
              clear KC hb4 hb5 r0 r1 r2 r3 HRw
              go_wp2_with fail
              refine (KE _).mono ?_
              rintro e w5 ⟨rfl, hw5⟩
              subst hw5
              clear KE
              by_cases h0 : ee = 0
              · subst h0
                have HE : Hid (runsE i L.length (dr.drop (k + 1)) = runsE i L.length dr) := by show _ = _; rw [← hG.out, hD.out]; rfl
                have hk2 : IntKind.i64.wrap ((k : Int) + 1) = (k : Int) + 1 := by rw [IntKind.wrap_i64]; have := HL.out; omega
                clear hD hG
                go_wp2
                go_roundw
                case rel => exact ⟨k + 1, by omega, by first | rfl | simp, HE, HB5, HR5⟩
                case measure => first | (simp [intOf]; omega) | (unfold intOf; simp; omega)
              · have HE : Hid (runsE i L.length dr = ee) := by show _ = _; rw [← hG.out, hD.out, if_neg h0]
                have hn : (ee != 0) = true := by simp [h0]
                clear hD hG
                go_wp2
                go_ret
                exact ⟨by rw [HEE.out, HE.out]; rfl, HB5.out⟩
            · have HE : Hid (runsE i L.length dr = 0) := by show _ = _; rw [← hG.out, List.drop_eq_nil_of_le (by omega)]; rfl
              clear hG
              go_wp2
              go_ret
              exact ⟨by rw [HEE.out, HE.out]; rfl, hB.out⟩
def ndsE (N : Int) : Nat → List Nde → Int
  | _, [] => 0
  | i, d :: t => if ndeE d i N = 0 then ndsE N (i + 1) t else ndeE d i N
theorem nds_drop (N : Int) (L : List Nde) (k : Nat) (h : k < L.length) : ndsE N k (L.drop k) = if ndeE L[k] k N = 0 then ndsE N (k + 1) (L.drop (k + 1)) else ndeE L[k] k N := by
  rw [List.drop_eq_getElem_cons h]; rfl
def nodesE (L : List Nde) : Int := if L = [] then 2 else ndsE L.length 0 L
set_option maxRecDepth 20000 in
set_option maxHeartbeats 4000000 in
theorem checkNodes_any (v : Value) (L : List Nde) (w : World) (hv : RwD w v L) (hl : L.length ≤ 1000000000) (hr : ∀ d ∈ L, d.r.length ≤ 1000000000) :
    Calls Try.prog 41 #[v] w fun e w' => e = .returned (.int .i64 (nodesE L)) ∧ Below w.heap.size w w' := by
  obtain ⟨ao, c, hvf, -⟩ := id hv
  have HV := hid13 hv
  unfold nodesE
  by_cases h0 : L = []
  · rw [if_pos h0]
    subst h0
    subst hvf
    clear hv
    go_enter Try.func41, Try.ntmps41
    go_wp2
    go_ret
    exact ⟨rfl, Below.refl _ _⟩
  · rw [if_neg h0]
    have hp := List.length_pos_iff.mpr h0
    have e1 : ((L.length : Int) == 0) = false := by rw [beq_eq_false_iff_ne]; omega
    have HL : Hid (L.length ≤ 1000000000 ∧ ∀ d ∈ L, d.r.length ≤ 1000000000) := ⟨hl, hr⟩
    subst hvf
    clear hv hr
    go_enter Try.func41, Try.ntmps41
    go_wp2_with fail
    go_loopw [10] (fun i' wr => ∃ k : Nat, k ≤ L.length ∧ i' = .int .i64 k ∧ Hid (ndsE L.length k (L.drop k) = ndsE L.length 0 L) ∧ Hid (Below w.heap.size w wr)) (fun i' _ => L.length - (intOf i').toNat)
    case atStart => exact ⟨0, by omega, rfl, (rfl : ndsE L.length 0 (L.drop 0) = ndsE L.length 0 L), Below.refl _ _⟩
    case round =>
      obtain ⟨k, hk, rfl, hG, hB⟩ := hrel
      by_cases hlt : (k : Int) < (L.length : Int)
      · have hks : k < L.length := by omega
        have hD := hid13 (nds_drop (L.length : Int) L k hks)
        have KC := checkNode_any (.slice ao L.length c) L k L[k] wr (HV.out.below hB.out) (List.getElem?_eq_getElem hks) HL.out.1 (HL.out.2 _ (List.getElem_mem hks))
        generalize ndeE L[k] k L.length = ee at *
        go_wp2_with fail
        refine KC.mono ?_
        rintro e w4 ⟨rfl, hb4⟩
        have HB5 := hid13 (keepb hb4 hB.out)
        clear KC hb4
        by_cases h0 : ee = 0
        · subst h0
          have HE : Hid (ndsE L.length (k + 1) (L.drop (k + 1)) = ndsE L.length 0 L) := by show _ = _; rw [← hG.out, hD.out]; rfl
          have hk2 : IntKind.i64.wrap ((k : Int) + 1) = (k : Int) + 1 := by rw [IntKind.wrap_i64]; have := HL.out.1; omega
          clear hD hG
          go_wp2
          go_roundw
          case rel => exact ⟨k + 1, by omega, by first | rfl | simp, HE, HB5⟩
          case measure => first | (simp [intOf]; omega) | (unfold intOf; simp; omega)
        · have HE : Hid (ndsE L.length 0 L = ee) := by show _ = _; rw [← hG.out, hD.out, if_neg h0]
          have hn : (ee != 0) = true := by simp [h0]
          clear hD hG
          go_wp2
          go_ret
          exact ⟨by rw [HE.out]; rfl, HB5.out⟩
      · have HE : Hid (ndsE L.length 0 L = 0) := by show _ = _; rw [← hG.out, List.drop_eq_nil_of_le (by omega)]; rfl
        clear hG
        go_wp2
        go_ret
        exact ⟨by rw [HE.out]; rfl, hB.out⟩
end Go.Proofs.Ytdpfdlkaickkiaa
namespace Go.Proofs.Ytdpfdlkaickkiaa
open Go.RowKit
set_option linter.unusedSimpArgs false
set_option linter.unusedVariables false

theorem info13 {P : Program} {t : TypeId} {z : Value} {s b : Nat} (h : (P.info? t).map (fun i => (i.zero, i.size, i.bytes)) = some (some z, s, b)) : ∃ i, P.info? t = some i ∧ i.zero = some z ∧ i.size = s ∧ i.bytes = b := by
  cases hi : P.info? t with
  | none => rw [hi] at h; cases h
  | some i =>
    rw [hi] at h
    simp only [Option.map_some, Option.some.injEq, Prod.mk.injEq] at h
    exact ⟨i, rfl, h.1, h.2.1, h.2.2⟩
theorem own_b13 {base e size n : Nat} {v : Value} {xs : List Value} {W w' : World} (hb : Below W.heap.size W w') (h : W.ownsRow base e size v n xs) : w'.ownsRow base e size v n xs := by
  refine h.kept (row := none) ⟨hb.os, hb.tape, hb.output, hb.size, fun k hk _ => hb.block k hk⟩ ?_
  cases v.ownBlock with
  | none => exact Or.inl rfl
  | some a => exact Or.inr (by simp)
theorem news13 {W : World} {N : Nat} {v : Value} (h : W.cell? ⟨N, 0, none⟩ = some v) : ∀ j u, [v][j]? = some u → W.cell? ((⟨N, 0, none⟩ : Addr).add j) = some u := by
  intro j u hj
  rw [addA, Nat.zero_add]
  match j, hj with
  | 0, hj => simp at hj; subst hj; exact h
end Go.Proofs.Ytdpfdlkaickkiaa
namespace Go.Proofs.Ytdpfdlkaickkiaa
open Go.RowKit
set_option linter.unusedSimpArgs false
set_option linter.unusedVariables false

end Go.Proofs.Ytdpfdlkaickkiaa
namespace Go.Proofs.Ytdpfdlkaickkiaa
open Go.RowKit
set_option linter.unusedSimpArgs false
set_option linter.unusedVariables false

def intOf13 : Value → Int | .int _ q => q | _ => 0
def AlI (l : List Nat) (ao : Option Addr) (cc : Nat) (c : BitVec 32) (a' : Act) : Prop := ∃ (k : Nat) (C : BitVec 32) (u6 u7 u8 u9 u10 u11 u12 u13 u14 u15 u16 u17 u18 u19 u20 u21 u22 u23 u24 u25 u26 u27 u28 u29 u30 u31 u32 u33 : Value), a' = { tmps := #[.int .u32 (uI C), .slice ao l.length cc, undef, undef, .int .u32 0, .int .i64 (k : Int), u6, u7, u8, u9, u10, u11, u12, u13, u14, u15, u16, u17, u18, u19, u20, u21, u22, u23, u24, u25, u26, u27, u28, u29, u30, u31, u32, u33], defers := [] } ∧ k ≤ l.length ∧ Hid (crF C (l.drop k) = crF c l)
theorem AlI.mk {l : List Nat} {ao : Option Addr} {cc : Nat} {c : BitVec 32} (k : Nat) (C : BitVec 32) (u6 u7 u8 u9 u10 u11 u12 u13 u14 u15 u16 u17 u18 u19 u20 u21 u22 u23 u24 u25 u26 u27 u28 u29 u30 u31 u32 u33 : Value) (hk : k ≤ l.length) (h : Hid (crF C (l.drop k) = crF c l)) : AlI l ao cc c { tmps := #[.int .u32 (uI C), .slice ao l.length cc, undef, undef, .int .u32 0, .int .i64 (k : Int), u6, u7, u8, u9, u10, u11, u12, u13, u14, u15, u16, u17, u18, u19, u20, u21, u22, u23, u24, u25, u26, u27, u28, u29, u30, u31, u32, u33], defers := [] } := ⟨k, C, u6, u7, u8, u9, u10, u11, u12, u13, u14, u15, u16, u17, u18, u19, u20, u21, u22, u23, u24, u25, u26, u27, u28, u29, u30, u31, u32, u33, rfl, hk, h⟩
end Go.Proofs.Ytdpfdlkaickkiaa
namespace Go.Proofs.Ytdpfdlkaickkiaa
open Go.RowKit
set_option linter.unusedSimpArgs false
set_option linter.unusedVariables false

def setP (U : List (BitVec 32)) (k : Nat) : List (BitVec 32) := U.set (k / 32) (U.getD (k / 32) 0#32 ||| (cOne >>> (k % 32)))
section
variable {α : Type} [DecidableEq α]
end
end Go.Proofs.Ytdpfdlkaickkiaa
namespace Go.Proofs.Ytdpfdlkaickkiaa
open Go.RowKit
set_option linter.unusedSimpArgs false
set_option linter.unusedVariables false

structure FoI (w W : World) (nw : Nat) (vf : Value) (U : List (BitVec 32)) (R : List Int) : Prop where
  b : Below w.heap.size w W
  m : W.ownsRow w.heap.size 143 1 (.slice (some ⟨w.heap.size, 0, none⟩) nw nw) nw (U.map cU)
  r : W.ownsRow (w.heap.size + 1) 3 1 vf R.length (R.map cI)
  s : w.heap.size + 1 ≤ W.heap.size
section
variable {w W W' : World} {nw : Nat} {vf : Value} {U : List (BitVec 32)} {R : List Int}
theorem FoI.below (h : FoI w W nw vf U R) (hb : Below W.heap.size W W') : FoI w W' nw vf U R :=
  ⟨keepb hb h.b, own_b13 hb h.m, own_b13 hb h.r, Nat.le_trans h.s hb.size⟩
theorem FoI.ul (h : FoI w W nw vf U R) : U.length = nw := by have := h.m.1; simpa using this
theorem FoI.cell (h : FoI w W nw vf U R) (k : Nat) (hk : k / 32 < nw) : W.cell? ⟨w.heap.size, k / 32, none⟩ = some (.int .u32 (uI (U.getD (k / 32) 0#32))) ∧ W.frozen? ⟨w.heap.size, k / 32, none⟩ = false := by
  have hl := h.ul
  refine ⟨?_, h.m.frozenAt _⟩
  rw [h.m.cellAt (k / 32) (by omega), List.getElem?_map, List.getD_eq_getElem?_getD, List.getElem?_eq_getElem (by omega)]
  rfl
theorem FoI.set (h : FoI w W nw vf U R) (k : Nat) (hk : k / 32 < nw) : FoI w (W.setCell ⟨w.heap.size, k / 32, none⟩ (.int .u32 (uI (U.getD (k / 32) 0#32 ||| (cOne >>> (k % 32)))))).drew nw vf (setP U k) R := by
  have hs := (h.m.stored (k / 32) (.int .u32 (uI (U.getD (k / 32) 0#32 ||| (cOne >>> (k % 32)))))).1
  have e : (setP U k).map cU = (U.map cU).set (k / 32) (.int .u32 (uI (U.getD (k / 32) 0#32 ||| (cOne >>> (k % 32))))) := by
    unfold setP
    rw [List.map_set]; rfl
  refine ⟨(h.b.setCell (Nat.le_refl _) _).drew, ?_, ?_, ?_⟩
  · rw [e]; exact own_b13 (below_drewN (Below.refl _ _) 1) hs
  · exact own_b13 (below_drewN (Below.refl _ _) 1) (ownsRow_setCell_below h.r (Nat.lt_succ_self _) _)
  · have : (W.setCell ⟨w.heap.size, k / 32, none⟩ (.int .u32 (uI (U.getD (k / 32) 0#32 ||| (cOne >>> (k % 32)))))).drew.heap.size = W.heap.size := by simp [World.setCell, World.drew]
    rw [this]; exact h.s
theorem FoI.grown (h : FoI w W nw vf U R) {v' : Value} {x : Int} (ho : W'.ownsRow (w.heap.size + 1) 3 1 v' (R.length + 1) (R.map cI ++ [cI x])) (hg : W.grownBy W' vf.ownBlock) : FoI w W' nw v' U (R ++ [x]) := by
  refine ⟨h.b.grown hg (by have := h.s; omega) (fun k e => by have := (h.r.lt k e).1; omega), h.m.kept hg ?_, ?_, Nat.le_trans h.s hg.size⟩
  · cases e : vf.ownBlock with
    | none => exact .inr (by simp [Value.ownBlock])
    | some k => exact .inr (by have := (h.r.lt k e).1; simp only [Value.ownBlock, ne_eq, Option.some.injEq]; omega)
  · rw [List.length_append, List.map_append]
    exact ho
end
end Go.Proofs.Ytdpfdlkaickkiaa
namespace Go.Proofs.Ytdpfdlkaickkiaa
open Go.RowKit
set_option linter.unusedSimpArgs false
set_option linter.unusedVariables false

end Go.Proofs.Ytdpfdlkaickkiaa
namespace Go.Proofs.Ytdpfdlkaickkiaa
open Go.RowKit
set_option linter.unusedSimpArgs false
set_option linter.unusedVariables false

structure QW (P : Program) (ops : Array Oper) (C : World → Prop) (Q : Act → Prop) (l : List Oper) (a : Act) : Prop where
  out : wpQuiet P ops C Q l a
theorem qw_run {P : Program} {ops : Array Oper} {C : World → Prop} {Q : Act → Prop} {a : Act} {o : Oper} {rest : List Oper} {v : Value}
    (hw : Region.wanted o (yielded ops a.tmps) = true) (h : ∀ w, C w → (execOp a.eval o).run P w = .ok (.value v) w) (k : QW P ops C Q rest (a.put o.dst v)) : QW P ops C Q (o :: rest) a := ⟨q_run hw h k.out⟩
theorem qw_skip {P : Program} {ops : Array Oper} {C : World → Prop} {Q : Act → Prop} {a : Act} {o : Oper} {rest : List Oper}
    (hw : Region.wanted o (yielded ops a.tmps) = false) (k : QW P ops C Q rest (a.put o.dst undef)) : QW P ops C Q (o :: rest) a := ⟨q_skip hw k.out⟩
theorem qw_call {P : Program} {ops : Array Oper} {C : World → Prop} {Q : Act → Prop} {a : Act} {o : Oper} {rest : List Oper} {v : Value} {f : FuncId} {args : Array Value}
    (hw : Region.wanted o (yielded ops a.tmps) = true) (h : ∀ w, C w → (execOp a.eval o).run P w = .ok (.enter f args) w) (hc : ∀ w, C w → Calls P f args w fun e w' => e = .returned v ∧ C w') (k : QW P ops C Q rest (a.put o.dst v)) : QW P ops C Q (o :: rest) a := ⟨q_call hw h hc k.out⟩
theorem qw_nil {P : Program} {ops : Array Oper} {C : World → Prop} {Q : Act → Prop} {a : Act} (h : Q a) : QW P ops C Q [] a := ⟨wpQuiet_nil h⟩
theorem qw_region {P : Program} {C : World → Prop} {id : Nat} {Q : Exit → Act → World → Prop} {a : Act} {w : World} {l : List Oper} (hm : P.follows .mixedOrders = true) (hB : Region.lexB .any l.toArray = true) (hC : C w.drew)
    (h : QW P l.toArray C (fun a' => ∀ w', C w' → Q .normal a' w') l a) : (Code.region id l.toArray true).wp P Q a w := q_region hm hB hC h.out
end Go.Proofs.Ytdpfdlkaickkiaa
namespace Go.Proofs.Ytdpfdlkaickkiaa
open Go.RowKit
set_option linter.unusedSimpArgs false
set_option linter.unusedVariables false

end Go.Proofs.Ytdpfdlkaickkiaa
namespace Go.Proofs.Ytdpfdlkaickkiaa
open Go.RowKit
set_option linter.unusedSimpArgs false
set_option linter.unusedVariables false

end Go.Proofs.Ytdpfdlkaickkiaa
namespace Go.Proofs.Ytdpfdlkaickkiaa
open Go.RowKit
set_option linter.unusedSimpArgs false
set_option linter.unusedVariables false

end Go.Proofs.Ytdpfdlkaickkiaa
namespace Go.Proofs.Ytdpfdlkaickkiaa
open Go.RowKit
set_option linter.unusedSimpArgs false
set_option linter.unusedVariables false

def AtI (w : World) (B : Nat) (op n : Int) (v : Value) : Prop := w.cell? ⟨B, 0, none⟩ = some (.int .i64 op) ∧ w.cell? ⟨B, 1, none⟩ = some (.int .i64 n) ∧ w.cell? ⟨B, 2, none⟩ = some v
theorem AtI.below {w w' : World} {B : Nat} {op n : Int} {v : Value} (h : AtI w B op n v) (hb : Below w.heap.size w w') : AtI w' B op n v := ⟨keepc hb h.1, keepc hb h.2.1, keepc hb h.2.2⟩
end Go.Proofs.Ytdpfdlkaickkiaa
namespace Go.Proofs.Ytdpfdlkaickkiaa
open Go.RowKit
set_option linter.unusedSimpArgs false
set_option linter.unusedVariables false

end Go.Proofs.Ytdpfdlkaickkiaa
namespace Go.Proofs.Ytdpfdlkaickkiaa
open Go.RowKit
set_option linter.unusedSimpArgs false
set_option linter.unusedVariables false

end Go.Proofs.Ytdpfdlkaickkiaa
namespace Go.Proofs.Ytdpfdlkaickkiaa
open Go.RowKit
set_option linter.unusedSimpArgs false
set_option linter.unusedVariables false

def AtIF (w : World) (B : Nat) (op n : Int) (v : Value) : Prop := AtI w B op n v ∧ w.frozen? ⟨B, 0, none⟩ = false ∧ w.frozen? ⟨B, 1, none⟩ = false ∧ w.frozen? ⟨B, 2, none⟩ = false
theorem AtIF.below {w w' : World} {B : Nat} {op n : Int} {v : Value} (h : AtIF w B op n v) (hb : Below w.heap.size w w') : AtIF w' B op n v :=
  ⟨h.1.below hb, keepf hb h.1.1 h.2.1, keepf hb h.1.2.1 h.2.2.1, keepf hb h.1.2.2 h.2.2.2⟩
end Go.Proofs.Ytdpfdlkaickkiaa
namespace Go.Proofs.Ytdpfdlkaickkiaa
open Go.RowKit
set_option linter.unusedSimpArgs false
set_option linter.unusedVariables false

section
variable {P : Program}

end
end Go.Proofs.Ytdpfdlkaickkiaa
