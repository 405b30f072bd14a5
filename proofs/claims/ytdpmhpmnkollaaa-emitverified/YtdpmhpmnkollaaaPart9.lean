/-
  Part 9 of the proof: 3 texts, one behind the other.
-/
import Derived.Test.YtdpmhpmnkollaaaPart8
import Derived.Test.YtdpmhpmnkollaaaPart5
namespace Go.Proofs.Ytdpmhpmnkollaaa
open Go.RowKit
set_option linter.unusedSimpArgs false
set_option linter.unusedVariables false
attribute [local go_sem] Oper.semAt_some

def runsE (i N : Int) : List Rn → Int
  | [] => 0
  | r :: t => if runE r i N = 0 then runsE i N t else runE r i N
theorem runs_drop (i N : Int) (l : List Rn) (k : Nat) (h : k < l.length) : runsE i N (l.drop k) = if runE l[k] i N = 0 then runsE i N (l.drop (k + 1)) else runE l[k] i N := by
  rw [List.drop_eq_getElem_cons h]; rfl
def argB (b N : Int) : Bool := bitsB b && !(decide (b = 0) && decide (1 < N))
def ndeE (d : Nde) (i N : Int) : Int := if argB d.b N = true then (if ioB d = true then runsE i N d.r else 19) else 1
set_option maxRecDepth 20000 in
set_option maxHeartbeats 4000000 in
theorem checkNode_any (v : Value) (L : List Nde) (i : Nat) (d : Nde) (w : World) (hv : RwD w v L) (hd : L[i]? = some d) (hl : L.length ≤ 1000000000) (hr : d.r.length ≤ 1000000000) :
    Calls Try.prog 93 #[v, .int .i64 (i : Int)] w fun e w' => e = .returned (.int .i64 (ndeE d i L.length)) ∧ Below w.heap.size w w' := by
  obtain ⟨ao, c, rfl, hc, hrow⟩ := hv
  have hi : i < L.length := (List.getElem?_eq_some_iff.mp hd).1
  obtain ⟨b, off, rfl, hcell⟩ : ∃ b off, ao = some ⟨b, off, none⟩ ∧ ∀ j d, L[j]? = some d → ∃ vr, w.cell? ⟨b, off + j * 2, none⟩ = some (.int .i64 d.b) ∧ w.cell? ⟨b, off + j * 2 + 1, none⟩ = some vr ∧ RwN w vr d.r := by
    rcases hrow with h | h
    · rw [h] at hi; simp at hi
    · exact h
  obtain ⟨vr, x0, x1, hR⟩ := hcell i d hd
  obtain ⟨db, dr⟩ := d
  have hi' : (i : Int) < (L.length : Int) := by omega
  have q1 := bl1 w (.cells #[.int .i64 db, vr] 53)
  have HA := hid13 (atd_new w db vr 53)
  have HB := hid13 q1
  have HR := hid13 (hR.below q1)
  have KB := fun w => isBits_any db w
  have KO := fun w h => inOrder_any db vr dr w h hr
  have HL : Hid (L.length ≤ 1000000000 ∧ dr.length ≤ 1000000000) := ⟨hl, hr⟩
  unfold ndeE
  dsimp only at *
  clear hcell hrow hR q1
  obtain ⟨vo, vc, hvr, -, -⟩ := id HR.out
  subst hvr
  cases ha : argB db L.length with
  | false =>
    rw [if_neg (by decide)]
    cases hb : bitsB db with
    | false =>
      rw [hb] at KB
      clear ha hb KO
      go_enter Try.func93, Try.ntmps93
      go_wp2_with fail
      refine (KB _).mono ?_
      rintro e w2 ⟨rfl, hw⟩
      subst hw
      go_wp2
      go_ret
      exact ⟨rfl, HB.out⟩
    | true =>
      rw [hb] at KB
      unfold argB at ha
      rw [hb] at ha
      simp at ha
      obtain ⟨h0, h1⟩ := ha
      have h1' : (1 : Int) < (L.length : Int) := by omega
      subst h0
      clear hb KO h1
      go_enter Try.func93, Try.ntmps93
      go_wp2_with fail
      refine (KB _).mono ?_
      rintro e w2 ⟨rfl, hw⟩
      subst hw
      go_wp2
      go_ret
      exact ⟨rfl, HB.out⟩
  | true =>
    rw [if_pos rfl]
    unfold argB at ha
    simp only [Bool.and_eq_true] at ha
    obtain ⟨hb, h2⟩ := ha
    rw [hb] at KB
    have h3 : db ≠ 0 ∨ ¬ (1 : Int) < (L.length : Int) := by
      simp at h2
      rcases h2 with h | h
      · exact .inl h
      · right; omega
    clear h2 hb
    obtain ⟨t, ht⟩ : ∃ t, t = ioB ⟨db, dr⟩ := ⟨_, rfl⟩
    rw [← ht] at KO ⊢
    obtain ⟨E, hE⟩ : ∃ E, E = (if t = true then runsE i L.length dr else 19) := ⟨_, rfl⟩
    rw [← hE]
    have HEE := hid13 hE
    clear ht hE
    go_enter Try.func93, Try.ntmps93
    go_wp2_with fail
    refine (KB _).mono ?_
    rintro e w2 ⟨rfl, hw⟩
    subst hw
    obtain ⟨W, hW⟩ : ∃ W, W = w.alloc (.cells #[.int .i64 db, .slice vo dr.length vc] 53) := ⟨_, rfl⟩
    rw [← hW] at HA HB HR ⊢
    obtain ⟨a0, a1⟩ := HA.out
    have KO := KO _ HR.out
    clear hW KB
    rcases h3 with h3 | h3
    · have e3 : (db == 0) = false := by rw [beq_eq_false_iff_ne]; exact h3
      clear h3
      go_wp2_with fail
      refine KO.mono ?_
      rintro e w3 ⟨rfl, hb3⟩
      have HB3 := hid13 (keepb hb3 HB.out)
      have HR3 := hid13 (HR.out.below hb3)
      have a0 := keepc hb3 a0
      have a1 := keepc hb3 a1
      clear KO hb3 HA HB HR x0 x1
      cases t with
      | false =>
        go_wp2
        go_ret
        exact ⟨by rw [HEE.out]; rfl, HB3.out⟩
      | true =>
        replace HEE : Hid (E = runsE i L.length dr) := HEE
        go_wp2_with fail
        go_loopw [33] (fun i' wr => ∃ k : Nat, k ≤ dr.length ∧ i' = .int .i64 k ∧ Hid (runsE i L.length (dr.drop k) = runsE i L.length dr) ∧ Hid (Below w.heap.size w wr) ∧ Hid (RwN wr (.slice vo dr.length vc) dr)) (fun i' _ => dr.length - (intOf i').toNat)
        case atStart => exact ⟨0, by omega, rfl, (rfl : runsE i L.length (dr.drop 0) = runsE i L.length dr), HB3, HR3⟩
        case round =>
          clear HB3 HR3 a0 a1
          obtain ⟨k, hk, rfl, hG, hB, HRw⟩ := hrel
          by_cases hlt : (k : Int) < (dr.length : Int)
          · have hks : k < dr.length := by omega
            have hD := hid13 (runs_drop (i : Int) (L.length : Int) dr k hks)
            obtain ⟨bb, oo, hvo, hcl⟩ : ∃ b off, vo = some ⟨b, off, none⟩ ∧ ∀ j r, dr[j]? = some r → RnAt wr b (off + j * 4) r := by
              obtain ⟨ao', c', e, hc', hr'⟩ := HRw.out
              injection e with e1 e2 e3
              subst e1
              rcases hr' with h | h
              · rw [h] at hks; simp at hks
              · exact h
            subst hvo
            obtain ⟨r0, r1, r2, r3⟩ := hcl k _ (List.getElem?_eq_getElem hks)
            have KC := fun w => content_any dr[k] w
            have KE := fun w => checkContent_any dr[k] (i : Int) (L.length : Int) w
            generalize dr[k] = r at *
            unfold rnV at KC
            generalize runE r i L.length = ee at *
            generalize cntV r = cv at *
            clear hcl
            go_wp2_with fail
            refine (KC _).mono ?_
            rintro e w4 ⟨rfl, hb4⟩
            have hb5 := keepb hb4 (bl1 wr (.cells #[.int .u64 (hI r.f), .int .u64 (lI r.f), .bool r.k, .int .i64 r.n] 50))
            have HB5 := hid13 (keepb hb5 hB.out)
            have HR5 := hid13 (HRw.out.below hb5)
            clear KC hb4 hb5 r0 r1 r2 r3 HRw
            go_wp2_with fail
            refine (KE _).mono ?_
            rintro e w5 ⟨rfl, hw5⟩
            subst hw5
            clear KE
            by_cases h0 : ee = 0
            · subst h0
              have HE : Hid (runsE i L.length (dr.drop (k + 1)) = runsE i L.length dr) := by show _ = _; rw [← hG.out, hD.out]; rfl
              have hk2 : IntKind.i64.wrap ((k : Int) + 1) = (k : Int) + 1 := by rw [IntKind.wrap_i64]; have := HL.out; omega
              clear hD hG
              go_wp2
              go_roundw
              case rel => exact ⟨k + 1, by omega, by first | rfl | simp, HE, HB5, HR5⟩
              case measure => first | (simp [intOf]; omega) | (unfold intOf; simp; omega)
            · have HE : Hid (runsE i L.length dr = ee) := by show _ = _; rw [← hG.out, hD.out, if_neg h0]
              have hn : (ee != 0) = true := by simp [h0]
              clear hD hG
              go_wp2
              go_ret
              exact ⟨by rw [HEE.out, HE.out]; rfl, HB5.out⟩
          · have HE : Hid (runsE i L.length dr = 0) := by show _ = _; rw [← hG.out, List.drop_eq_nil_of_le (by omega)]; rfl
            clear hG
            go_wp2
            go_ret
            exact ⟨by rw [HEE.out, HE.out]; rfl, hB.out⟩
    · cases e3 : (db == 0) with
      | false =>
        go_wp2_with fail
        refine KO.mono ?_
        rintro e w3 ⟨rfl, hb3⟩
        have HB3 := hid13 (keepb hb3 HB.out)
        have HR3 := hid13 (HR.out.below hb3)
        have a0 := keepc hb3 a0
        have a1 := keepc hb3 a1
        clear KO hb3 HA HB HR x0 x1
        cases t with
        | false =>
          go_wp2
          go_ret
          exact ⟨by rw [HEE.out]; rfl, HB3.out⟩
        | true =>
          replace HEE : Hid (E = runsE i L.length dr) := HEE
          go_wp2_with fail
          go_loopw [33] (fun i' wr => ∃ k : Nat, k ≤ dr.length ∧ i' = .int .i64 k ∧ Hid (runsE i L.length (dr.drop k) = runsE i L.length dr) ∧ Hid (Below w.heap.size w wr) ∧ Hid (RwN wr (.slice vo dr.length vc) dr)) (fun i' _ => dr.length - (intOf i').toNat)
          case atStart => exact ⟨0, by omega, rfl, (rfl : runsE i L.length (dr.drop 0) = runsE i L.length dr), HB3, HR3⟩
          case round =>
            clear HB3 HR3 a0 a1
            obtain ⟨k, hk, rfl, hG, hB, HRw⟩ := hrel
            by_cases hlt : (k : Int) < (dr.length : Int)
            · have hks : k < dr.length := by omega
              have hD := hid13 (runs_drop (i : Int) (L.length : Int) dr k hks)
              obtain ⟨bb, oo, hvo, hcl⟩ : ∃ b off, vo = some ⟨b, off, none⟩ ∧ ∀ j r, dr[j]? = some r → RnAt wr b (off + j * 4) r := by
                obtain ⟨ao', c', e, hc', hr'⟩ := HRw.out
                injection e with e1 e2 e3
                subst e1
                rcases hr' with h | h
                · rw [h] at hks; simp at hks
                · exact h
              subst hvo
              obtain ⟨r0, r1, r2, r3⟩ := hcl k _ (List.getElem?_eq_getElem hks)
              have KC := fun w => content_any dr[k] w
              have KE := fun w => checkContent_any dr[k] (i : Int) (L.length : Int) w
              generalize dr[k] = r at *
              unfold rnV at KC
              generalize runE r i L.length = ee at *
              generalize cntV r = cv at *
              clear hcl
              go_wp2_with fail
              refine (KC _).mono ?_
              rintro e w4 ⟨rfl, hb4⟩
              have hb5 := keepb hb4 (bl1 wr (.cells #[.int .u64 (hI r.f), .int .u64 (lI r.f), .bool r.k, .int .i64 r.n] 50))
              have HB5 := hid13 (keepb hb5 hB.out)
              have HR5 := hid13 (HRw.out.below hb5)
              clear KC hb4 hb5 r0 r1 r2 r3 HRw
              go_wp2_with fail
              refine (KE _).mono ?_
              rintro e w5 ⟨rfl, hw5⟩
              subst hw5
              clear KE
              by_cases h0 : ee = 0
              · subst h0
                have HE : Hid (runsE i L.length (dr.drop (k + 1)) = runsE i L.length dr) := by show _ = _; rw [← hG.out, hD.out]; rfl
                have hk2 : IntKind.i64.wrap ((k : Int) + 1) = (k : Int) + 1 := by rw [IntKind.wrap_i64]; have := HL.out; omega
                clear hD hG
                go_wp2
                go_roundw
                case rel => exact ⟨k + 1, by omega, by first | rfl | simp, HE, HB5, HR5⟩
                case measure => first | (simp [intOf]; omega) | (unfold intOf; simp; omega)
              · have HE : Hid (runsE i L.length dr = ee) := by show _ = _; rw [← hG.out, hD.out, if_neg h0]
                have hn : (ee != 0) = true := by simp [h0]
                clear hD hG
                go_wp2
                go_ret
                exact ⟨by rw [HEE.out, HE.out]; rfl, HB5.out⟩
            · have HE : Hid (runsE i L.length dr = 0) := by show _ = _; rw [← hG.out, List.drop_eq_nil_of_le (by omega)]; rfl
              clear hG
              go_wp2
              go_ret
              exact ⟨by rw [HEE.out, HE.out]; rfl, hB.out⟩
      | true =>
        go_wp2_with fail
        refine KO.mono ?_
        rintro e w3 ⟨rfl, hb3⟩
        have HB3 := hid13 (keepb hb3 HB.out)
        have HR3 := hid13 (HR.out.below hb3)
        have a0 := keepc hb3 a0
        have a1 := keepc hb3 a1
        clear KO hb3 HA HB HR x0 x1
        cases t with
        | false =>
          go_wp2
          go_ret
          exact ⟨by rw [HEE.out]; rfl, HB3.out⟩
        | true =>
          replace HEE : Hid (E = runsE i L.length dr) := HEE
          go_wp2_with fail
          go_loopw [33] (fun i' wr => ∃ k : Nat, k ≤ dr.length ∧ i' = .int .i64 k ∧ Hid (runsE i L.length (dr.drop k) = runsE i L.length dr) ∧ Hid (Below w.heap.size w wr) ∧ Hid (RwN wr (.slice vo dr.length vc) dr)) (fun i' _ => dr.length - (intOf i').toNat)
          case atStart => exact ⟨0, by omega, rfl, (rfl : runsE i L.length (dr.drop 0) = runsE i L.length dr), HB3, HR3⟩
          case round =>
            clear HB3 HR3 a0 a1
            obtain ⟨k, hk, rfl, hG, hB, HRw⟩ := hrel
            by_cases hlt : (k : Int) < (dr.length : Int)
            · have hks : k < dr.length := by omega
              have hD := hid13 (runs_drop (i : Int) (L.length : Int) dr k hks)
              obtain ⟨bb, oo, hvo, hcl⟩ : ∃ b off, vo = some ⟨b, off, none⟩ ∧ ∀ j r, dr[j]? = some r → RnAt wr b (off + j * 4) r := by
                obtain ⟨ao', c', e, hc', hr'⟩ := HRw.out
                injection e with e1 e2 e3
                subst e1
                rcases hr' with h | h
                · rw [h] at hks; simp at hks
                · exact h
              subst hvo
              obtain ⟨r0, r1, r2, r3⟩ := hcl k _ (List.getElem?_eq_getElem hks)
              have KC := fun w => content_any dr[k] w
              have KE := fun w => checkContent_any dr[k] (i : Int) (L.length : Int) w
              generalize dr[k] = r at *
              unfold rnV at KC
              generalize runE r i L.length = ee at *
              generalize cntV r = cv at *
              clear hcl
              go_wp2_with fail
              refine (KC _).mono ?_
              rintro e w4 ⟨rfl, hb4⟩
              have hb5 := keepb hb4 (bl1 wr (.cells #[.int .u64 (hI r.f), .int .u64 (lI r.f), .bool r.k, .int .i64 r.n] 50))
              have HB5 := hid13 (keepb hb5 hB.out)
              have HR5 := hid13 (HRw.out.below hb5)
              clear KC hb4 hb5 r0 r1 r2 r3 HRw
              go_wp2_with fail
              refine (KE _).mono ?_
              rintro e w5 ⟨rfl, hw5⟩
              subst hw5
              clear KE
              by_cases h0 : ee = 0
              · subst h0
                have HE : Hid (runsE i L.length (dr.drop (k + 1)) = runsE i L.length dr) := by show _ = _; rw [← hG.out, hD.out]; rfl
                have hk2 : IntKind.i64.wrap ((k : Int) + 1) = (k : Int) + 1 := by rw [IntKind.wrap_i64]; have := HL.out; omega
                clear hD hG
                go_wp2
                go_roundw
                case rel => exact ⟨k + 1, by omega, by first | rfl | simp, HE, HB5, HR5⟩
                case measure => first | (simp [intOf]; omega) | (unfold intOf; simp; omega)
              · have HE : Hid (runsE i L.length dr = ee) := by show _ = _; rw [← hG.out, hD.out, if_neg h0]
                have hn : (ee != 0) = true := by simp [h0]
                clear hD hG
                go_wp2
                go_ret
                exact ⟨by rw [HEE.out, HE.out]; rfl, HB5.out⟩
            · have HE : Hid (runsE i L.length dr = 0) := by show _ = _; rw [← hG.out, List.drop_eq_nil_of_le (by omega)]; rfl
              clear hG
              go_wp2
              go_ret
              exact ⟨by rw [HEE.out, HE.out]; rfl, hB.out⟩
def ndsE (N : Int) : Nat → List Nde → Int
  | _, [] => 0
  | i, d :: t => if ndeE d i N = 0 then ndsE N (i + 1) t else ndeE d i N
theorem nds_drop (N : Int) (L : List Nde) (k : Nat) (h : k < L.length) : ndsE N k (L.drop k) = if ndeE L[k] k N = 0 then ndsE N (k + 1) (L.drop (k + 1)) else ndeE L[k] k N := by
  rw [List.drop_eq_getElem_cons h]; rfl
def nodesE (L : List Nde) : Int := if L = [] then 2 else ndsE L.length 0 L
set_option maxRecDepth 20000 in
set_option maxHeartbeats 4000000 in
theorem checkNodes_any (v : Value) (L : List Nde) (w : World) (hv : RwD w v L) (hl : L.length ≤ 1000000000) (hr : ∀ d ∈ L, d.r.length ≤ 1000000000) :
    Calls Try.prog 69 #[v] w fun e w' => e = .returned (.int .i64 (nodesE L)) ∧ Below w.heap.size w w' := by
  obtain ⟨ao, c, hvf, -⟩ := id hv
  have HV := hid13 hv
  unfold nodesE
  by_cases h0 : L = []
  · rw [if_pos h0]
    subst h0
    subst hvf
    clear hv
    go_enter Try.func69, Try.ntmps69
    go_wp2
    go_ret
    exact ⟨rfl, Below.refl _ _⟩
  · rw [if_neg h0]
    have hp := List.length_pos_iff.mpr h0
    have e1 : ((L.length : Int) == 0) = false := by rw [beq_eq_false_iff_ne]; omega
    have HL : Hid (L.length ≤ 1000000000 ∧ ∀ d ∈ L, d.r.length ≤ 1000000000) := ⟨hl, hr⟩
    subst hvf
    clear hv hr
    go_enter Try.func69, Try.ntmps69
    go_wp2_with fail
    go_loopw [10] (fun i' wr => ∃ k : Nat, k ≤ L.length ∧ i' = .int .i64 k ∧ Hid (ndsE L.length k (L.drop k) = ndsE L.length 0 L) ∧ Hid (Below w.heap.size w wr)) (fun i' _ => L.length - (intOf i').toNat)
    case atStart => exact ⟨0, by omega, rfl, (rfl : ndsE L.length 0 (L.drop 0) = ndsE L.length 0 L), Below.refl _ _⟩
    case round =>
      obtain ⟨k, hk, rfl, hG, hB⟩ := hrel
      by_cases hlt : (k : Int) < (L.length : Int)
      · have hks : k < L.length := by omega
        have hD := hid13 (nds_drop (L.length : Int) L k hks)
        have KC := checkNode_any (.slice ao L.length c) L k L[k] wr (HV.out.below hB.out) (List.getElem?_eq_getElem hks) HL.out.1 (HL.out.2 _ (List.getElem_mem hks))
        generalize ndeE L[k] k L.length = ee at *
        go_wp2_with fail
        refine KC.mono ?_
        rintro e w4 ⟨rfl, hb4⟩
        have HB5 := hid13 (keepb hb4 hB.out)
        clear KC hb4
        by_cases h0 : ee = 0
        · subst h0
          have HE : Hid (ndsE L.length (k + 1) (L.drop (k + 1)) = ndsE L.length 0 L) := by show _ = _; rw [← hG.out, hD.out]; rfl
          have hk2 : IntKind.i64.wrap ((k : Int) + 1) = (k : Int) + 1 := by rw [IntKind.wrap_i64]; have := HL.out.1; omega
          clear hD hG
          go_wp2
          go_roundw
          case rel => exact ⟨k + 1, by omega, by first | rfl | simp, HE, HB5⟩
          case measure => first | (simp [intOf]; omega) | (unfold intOf; simp; omega)
        · have HE : Hid (ndsE L.length 0 L = ee) := by show _ = _; rw [← hG.out, hD.out, if_neg h0]
          have hn : (ee != 0) = true := by simp [h0]
          clear hD hG
          go_wp2
          go_ret
          exact ⟨by rw [HE.out]; rfl, HB5.out⟩
      · have HE : Hid (ndsE L.length 0 L = 0) := by show _ = _; rw [← hG.out, List.drop_eq_nil_of_le (by omega)]; rfl
        clear hG
        go_wp2
        go_ret
        exact ⟨by rw [HE.out]; rfl, hB.out⟩
end Go.Proofs.Ytdpmhpmnkollaaa
namespace Go.Proofs.Ytdpmhpmnkollaaa
open Go.RowKit
set_option linter.unusedSimpArgs false
set_option linter.unusedVariables false
attribute [local go_sem] Oper.semAt_some

def fwN : List Nde → Nat
  | [] => 0
  | d :: L => 1 + d.r.length + fwN L
theorem fw_take (L : List Nde) (k : Nat) (h : k < L.length) : fwN (L.take (k + 1)) = fwN (L.take k) + 1 + L[k].r.length := by
  induction L generalizing k with
  | nil => simp at h
  | cons d L ih =>
    cases k with
    | zero => simp [fwN]
    | succ k =>
      simp only [List.take_succ_cons, fwN, List.getElem_cons_succ]
      rw [ih k (by simpa using h)]
      omega
theorem fw_mem {L : List Nde} {d : Nde} (h : d ∈ L) : d.r.length < fwN L := by
  induction L with
  | nil => cases h
  | cons e L ih =>
    rcases List.mem_cons.mp h with h | h
    · subst h; simp only [fwN]; omega
    · have := ih h; simp only [fwN]; omega
theorem fw_le {L : List Nde} {K : Nat} (hr : ∀ d ∈ L, d.r.length ≤ K) : ∀ k, fwN (L.take k) ≤ k * (K + 1)
  | 0 => by simp [fwN]
  | k + 1 => by
    have ih := fw_le hr k
    rw [Nat.succ_mul]
    by_cases h : k < L.length
    · rw [fw_take L k h]
      have := hr _ (List.getElem_mem h)
      omega
    · rw [List.take_of_length_le (by omega)]
      rw [List.take_of_length_le (by omega)] at ih
      omega
def fewB (L : List Nde) : Bool := decide (L.length < 500) && decide (fwN (L.take 500) < 5000)
theorem few_ok {L : List Nde} (h : fewB L = true) : L.length < 500 ∧ ∀ d ∈ L, d.r.length < 5000 := by
  unfold fewB at h
  simp only [Bool.and_eq_true, decide_eq_true_eq] at h
  rw [List.take_of_length_le (by omega)] at h
  exact ⟨h.1, fun d hd => by have := fw_mem hd; omega⟩
set_option maxRecDepth 20000 in
set_option maxHeartbeats 4000000 in
theorem few_any (v : Value) (L : List Nde) (w : World) (hv : RwD w v L) (hl : L.length ≤ 140737488355328) (hr : ∀ d ∈ L, d.r.length ≤ 140737488355328) :
    Calls Try.prog 15 #[v] w fun e w' => e = .returned (.bool (fewB L)) ∧ w' = w := by
  obtain ⟨ao, c, rfl, hc, hrow⟩ := hv
  have HC := hid13 hrow
  have HL : Hid (L.length ≤ 140737488355328 ∧ ∀ d ∈ L, d.r.length ≤ 140737488355328) := ⟨hl, hr⟩
  have hl' : (L.length : Int) ≤ 140737488355328 := by omega
  have HF : Hid (fewB L = (decide (L.length < 500) && decide (fwN (L.take 500) < 5000))) := rfl
  generalize fewB L = fb at *
  clear hr hrow hl
  go_enter Try.func15, Try.ntmps15
  go_wp2_with fail
  go_loopw [3, 4] (fun nv kv wr => ∃ k n : Nat, k ≤ L.length ∧ k ≤ 500 ∧ nv = .int .i64 n ∧ kv = .int .i64 k ∧ Hid (n = fwN (L.take k)) ∧ wr = w) (fun _ kv _ => L.length - (intOf kv).toNat)
  case atStart => exact ⟨0, 0, by omega, by omega, rfl, rfl, (rfl : 0 = fwN (L.take 0)), rfl⟩
  case round =>
    obtain ⟨k, n, hk, hk5, rfl, rfl, hN, rfl⟩ := hrel
    have hnb : n ≤ 70368744177664500 := by
      have h1 := fw_le HL.out.2 k
      rw [← hN.out] at h1
      have h2 := Nat.mul_le_mul_right (140737488355328 + 1) hk5
      exact Nat.le_trans h1 (Nat.le_trans h2 (by decide))
    by_cases hlt : (k : Int) < (L.length : Int)
    · by_cases h5 : (k : Int) < 500
      · have hks : k < L.length := by omega
        obtain ⟨b, off, rfl, hcell⟩ := HC.out.resolve_left (by rintro rfl; simp at hks)
        obtain ⟨vr, x0, x1, hR⟩ := hcell k _ (List.getElem?_eq_getElem hks)
        have hrk := HL.out.2 _ (List.getElem_mem hks)
        obtain ⟨vo, vc, hvr, -, -⟩ := hR
        subst hvr
        have ht := fw_take L k hks
        generalize L[k].r.length = m at *
        have m1 : wrap64 ((n : Int) + 1) = (n : Int) + 1 := by unfold wrap64; omega
        have m2 : wrap64 ((n : Int) + 1 + (m : Int)) = (n : Int) + 1 + (m : Int) := by unfold wrap64; omega
        have m3 : wrap64 ((k : Int) + 1) = (k : Int) + 1 := by unfold wrap64; omega
        clear hcell x0
        go_wp2
        go_roundw
        case rel => exact ⟨k + 1, n + 1 + m, by omega, by omega, by push_cast; rfl, by push_cast; rfl, (by rw [ht, ← hN.out] : n + 1 + m = fwN (L.take (k + 1))), trivial⟩
        case measure => first | (simp [intOf]; omega) | (unfold intOf; simp; omega)
      · have hl5 : ¬ (L.length : Int) < 500 := by omega
        have hfb : fb = false := by rw [HF.out]; simp; omega
        subst hfb
        clear HC
        go_wp2
        go_ret
        exact ⟨rfl, rfl⟩
    · have hke : k = L.length := by omega
      subst hke
      by_cases h5 : (L.length : Int) < 500
      · have h5' : L.length < 500 := by omega
        have hF2 := HF.out
        have hN2 := hN.out
        rw [List.take_of_length_le (Nat.le_refl _)] at hN2
        rw [List.take_of_length_le (Nat.le_of_lt h5'), ← hN2] at hF2
        by_cases hn : (n : Int) < 5000
        · have hfb : fb = true := by rw [hF2]; simp; omega
          subst hfb
          clear HC hF2 hN2 HF hN
          go_wp2
          go_ret
          exact ⟨rfl, rfl⟩
        · have hfb : fb = false := by rw [hF2]; simp; omega
          subst hfb
          clear HC hF2 hN2 HF hN
          go_wp2
          go_ret
          exact ⟨rfl, rfl⟩
      · have hfb : fb = false := by rw [HF.out]; simp; omega
        subst hfb
        clear HC
        go_wp2
        go_ret
        exact ⟨rfl, rfl⟩
end Go.Proofs.Ytdpmhpmnkollaaa
namespace Go.Proofs.Ytdpmhpmnkollaaa
open Go.RowKit Go.Shelf
set_option linter.unusedSimpArgs false
set_option linter.unusedVariables false
attribute [local go_sem] Oper.semAt_some

def kidL (l : List Rn) : List Int := (l.filter (·.k)).map (·.n)
theorem kid_take (l : List Rn) (j : Nat) (r : Rn) (h : l[j]? = some r) : kidL (l.take (j + 1)) = if r.k then kidL (l.take j) ++ [r.n] else kidL (l.take j) := by
  unfold kidL
  rw [List.take_add_one, h, List.filter_append, List.map_append]
  cases hk : r.k <;> simp [hk]
theorem kid_pre (l : List Rn) (j : Nat) : kidL (l.take j) <+: kidL l := by
  unfold kidL
  obtain ⟨t, ht⟩ := List.take_prefix j l
  refine ⟨kidL t, ?_⟩
  conv => rhs; rw [← ht]
  rw [List.filter_append, List.map_append]; rfl
structure KdM (Z : Nat → Prop) (A : Nat) (b : Int) (ao : Option Addr) (c : Nat) (l : List Rn) (W : World) : Prop where
  a : AtD W A b (.slice ao l.length c)
  za : Z A
  r : RwN W (.slice ao l.length c) l
  zr : l ≠ [] → ∀ ad, ao = some ad → Z ad.block
theorem rn_kz {Z : Nat → Prop} {W W' : World} {b o : Nat} {r : Rn} (h : RnAt W b o r) (g : KZ Z W W') (hz : Z b) : RnAt W' b o r := ⟨kz_cell g hz h.1, kz_cell g hz h.2.1, kz_cell g hz h.2.2.1, kz_cell g hz h.2.2.2⟩
theorem KdM.kz {Z : Nat → Prop} {A : Nat} {b : Int} {ao : Option Addr} {c : Nat} {l : List Rn} {W W' : World} (h : KdM Z A b ao c l W) (g : KZ Z W W') : KdM Z A b ao c l W' := by
  refine ⟨⟨kz_cell g h.za h.a.1, kz_cell g h.za h.a.2⟩, h.za, ?_, h.zr⟩
  obtain ⟨ao', c', e, hc, hr⟩ := h.r
  injection e with e1 e2 e3
  subst e1 e3
  refine ⟨ao, c, rfl, hc, ?_⟩
  rcases hr with hr | ⟨b, off, e, hr⟩
  · exact .inl hr
  · exact .inr ⟨b, off, e, fun j x hj => rn_kz (hr j x hj) g (h.zr (by rintro rfl; cases hj) _ e)⟩
def encI (x : Int) : Array Value := #[.int .i64 x]
theorem kids_any (b : Int) (v : Value) (w : World) :
    Calls Try.prog 94 #[.agg #[.int .i64 b, v]] w fun e w' => e = .returned (.func (.func 117) #[] #[.pointer (some ⟨w.heap.size, 0, none⟩)]) ∧ w' = w.alloc (.cells #[.int .i64 b, v] 53) := by
  have hmf : ∀ (fn : Fn) (first cap : Array Value) (w : World), (Instr.makeFunc fn first cap).run Try.prog w = .ok (.func fn first cap) w := fun _ _ _ _ => rfl
  go_enter Try.func94, Try.ntmps94
  go_wp2
  go_ret
  exact ⟨rfl, rfl⟩
set_option maxRecDepth 20000 in
set_option maxHeartbeats 16000000 in
theorem kids1_any (n : Nat) (Z : Nat → Prop) (A : Nat) (b : Int) (ao : Option Addr) (c : Nat) (l : List Rn) (hl : l.length ≤ 1000000000) (Bd : Nat) (w : World) (hM : KdM Z A b ao c l w) :
    SeqX n Try.prog 117 #[.pointer (some ⟨A, 0, none⟩)] encI (KZ Z) (fun ys => ys = kidL l) (fun pre => pre <+: kidL l) Bd w := by
  intro L J Jx W hW hB hJ hJx hY h0
  have HM := hid13 (hM.kz (kz_below hW))
  have HJ := hid13 hJ
  have HY := hid13 hY
  have H0 := hid13 h0
  have a2 := Try.as2
  have a4 := Try.as4
  have hmi : (l.length : Int) ≤ 1000000000 := by omega
  have HL : Hid (l.length ≤ 1000000000) := hl
  obtain ⟨a0, a1⟩ := HM.out.a
  clear hJ hJx hY h0 hM
  refine callsIn_of_wp Try.func117 rfl trivial ?_ rfl
  simp only [Try.ntmps117, List.size_toArray, List.length_cons, List.length_nil, Nat.reduceAdd, Nat.reduceSub, Array.replicate_succ, Array.replicate_zero, List.push_toArray, List.append_toArray, List.nil_append, List.cons_append]
  gi_wp2
  gi_loopw [10] (fun x10 wr => ∃ (j : Nat), j ≤ l.length ∧ x10 = .int .i64 (j : Int) ∧ Hid (J (kidL (l.take j)) wr) ∧ Hid (KdM Z A b ao c l wr)) (fun x10 wr => l.length - (intOf13 x10).toNat)
  case atStart => exact ⟨0, Nat.zero_le _, rfl, H0, HM⟩
  case round =>
    clear H0 HM a0 a1
    obtain ⟨j, hj, rfl, HJw, HMw⟩ := hrel
    by_cases hlt : j < l.length
    · have hli : (j : Int) < (l.length : Int) := by omega
      obtain ⟨r, hr⟩ : ∃ r, l[j]? = some r := ⟨l[j], by simp [hlt]⟩
      obtain ⟨bb, off, hao, hcell⟩ : ∃ b off, ao = some ⟨b, off, none⟩ ∧ ∀ j r, l[j]? = some r → RnAt wr b (off + j * 4) r := by
        obtain ⟨ao', c', e, hc, hr⟩ := HMw.out.r
        injection e with e1 e2 e3
        subst e1
        rcases hr with h | h
        · rw [h] at hlt; simp at hlt
        · exact h
      subst hao
      obtain ⟨r0, r1, r2, r3⟩ := hcell j r hr
      have KC := fun w => content_any r w
      have HT := hid13 (kid_take l j r hr)
      have HP := hid13 (kid_pre l (j + 1))
      have HK : Hid (j < l.length ∧ l.length ≤ 1000000000) := ⟨hlt, hl⟩
      have mj : IntKind.i64.wrap ((j : Int) + 1) = (j : Int) + 1 := by rw [IntKind.wrap_i64]; omega
      obtain ⟨f, k, m⟩ := r
      unfold rnV cntV at KC
      dsimp only at KC r0 r1 r2 r3 HT
      clear hr hcell
      gi_wp2_with fail
      refine ⟨trivial, fun q => (by cases q), (callsIn_wide.2 (KC _)).mono ?_⟩
      rintro e w2 ⟨rfl, hb2⟩
      have hb3 := keepb hb2 (bl1 wr (.cells #[.int .u64 (hI f), .int .u64 (lI f), .bool k, .int .i64 m] 50))
      have HJ2 := hid13 (HJ.out _ wr w2 none HJw.out (below_grownX14 hb3) (fun r e => by cases e))
      have HM2 := hid13 (HMw.out.kz (kz_below hb3))
      clear KC hb2 hb3 r0 r1 r2 r3 HJw HMw
      cases k with
      | true =>
        replace HT : Hid (kidL (l.take (j + 1)) = kidL (l.take j) ++ [m]) := HT
        have hp := HP.out
        rw [HT.out] at hp
        obtain ⟨fn, tmps, assign, body, hy, hR⟩ := HY.out _ m w2 HJ2.out hp
        dsimp only [encI] at hy
        have HPP := hid13 hp
        clear hp
        gi_wp2
        refine ⟨fun q => (by cases q), hR.mono ?_⟩
        rintro e W4 (⟨rfl, hJ4, hk4⟩ | ⟨rfl, hx4, -⟩)
        · rw [← HT.out] at hJ4
          have HM4 := hid13 (HM2.out.kz hk4)
          have HJ4 := hid13 hJ4
          clear hJ4 hk4 hy hR HM2 HJ2
          gi_wp2
          go_roundw
          case rel => exact ⟨j + 1, by have := HK.out; omega, rfl, HJ4, HM4⟩
          case measure =>
            have := HK.out
            first | (simp [intOf13]; omega) | (unfold intOf13; simp; omega)
        · have HX4 := hid13 hx4
          clear hx4 hy hR HM2 HJ2
          gi_wp2
          exact bodyPost_ret (v := .tuple #[]) (by simp [results, Try.results117]) rfl ⟨⟨_, rfl⟩, .inr ⟨_, HPP.out, HX4.out⟩⟩
      | false =>
        replace HT : Hid (kidL (l.take (j + 1)) = kidL (l.take j)) := HT
        have HJ4 : Hid (J (kidL (l.take (j + 1))) w2) := by show J _ _; rw [HT.out]; exact HJ2.out
        clear HJ2
        gi_wp2
        refine ⟨fun f q => (by cases q), ?_⟩
        gi_wp2
        go_roundw
        case rel => exact ⟨j + 1, by have := HK.out; omega, rfl, HJ4, HM2⟩
        case measure =>
          have := HK.out
          first | (simp [intOf13]; omega) | (unfold intOf13; simp; omega)
    · have hli : ¬ (j : Int) < (l.length : Int) := by omega
      have HE : Hid (J (kidL l) wr) := by have := HJw.out; rw [List.take_of_length_le (by omega)] at this; exact this
      clear HJw HMw
      gi_wp2
      go_end0
      first | exact ⟨⟨_, rfl⟩, .inl ⟨_, rfl, HE.out⟩⟩ | exact ⟨⟨_, rfl⟩, .inl HE.out⟩
end Go.Proofs.Ytdpmhpmnkollaaa
