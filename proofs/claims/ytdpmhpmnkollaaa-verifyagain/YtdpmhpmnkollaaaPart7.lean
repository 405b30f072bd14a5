/-
  Part 7 of the proof: 3 texts, one behind the other.
-/
import Derived.Test.YtdpmhpmnkollaaaPart6
import Derived.Test.YtdpmhpmnkollaaaPart4
import Derived.Test.YtdpmhpmnkollaaaPart5
namespace Go.Proofs.Ytdpmhpmnkollaaa
open Go.RowKit Go.Shelf
set_option linter.unusedSimpArgs false
set_option linter.unusedVariables false
attribute [local go_sem] Oper.semAt_some

def encP (x : Int) : Array Value := #[.int .i64 x]
structure PlM (Z : Nat → Prop) (A : Nat) (ao : Option Addr) (c : Nat) (m : List (BitVec 32)) (W : World) : Prop where
  a : W.cell? ⟨A, 0, none⟩ = some (.slice ao m.length c)
  za : Z A
  r : RwX cU W (.slice ao m.length c) m
  zr : m ≠ [] → ∀ ad, ao = some ad → Z ad.block
theorem PlM.kz {Z : Nat → Prop} {A : Nat} {ao : Option Addr} {c : Nat} {m : List (BitVec 32)} {W W' : World} (h : PlM Z A ao c m W) (g : KZ Z W W') : PlM Z A ao c m W' := by
  refine ⟨kz_cell g h.za h.a, h.za, ?_, h.zr⟩
  obtain ⟨ao', c', e, hc, hr⟩ := h.r
  injection e with e1 e2 e3
  subst e1 e3
  refine ⟨ao, c, rfl, hc, ?_⟩
  rcases hr with hr | ⟨b, off, e, hr⟩
  · exact .inl hr
  · exact .inr ⟨b, off, e, fun j x hj => kz_cell g (h.zr (by rintro rfl; cases hj) _ e) (hr j x hj)⟩
theorem vplaces18 (ao : Option Addr) (n c : Nat) (w : World) :
    Calls Try.prog 66 #[.slice ao n c] w fun e w' => e = .returned (.func (.func 89) #[] #[.pointer (some ⟨w.heap.size, 0, none⟩)]) ∧ w' = w.alloc (.cells #[.slice ao n c] 65) := by
  have hmf : ∀ (fn : Fn) (first cap : Array Value) (w : World), (Instr.makeFunc fn first cap).run Try.prog w = .ok (.func fn first cap) w := fun _ _ _ _ => rfl
  go_enter Try.func66, Try.ntmps66
  go_wp2
  go_ret
  exact ⟨rfl, rfl⟩
set_option maxRecDepth 20000 in
set_option maxHeartbeats 16000000 in
theorem places1_any (n : Nat) (Z : Nat → Prop) (A : Nat) (ao : Option Addr) (c : Nat) (m : List (BitVec 32)) (hl : m.length ≤ 100000000) (Bd : Nat) (w : World) (hM : PlM Z A ao c m w) :
    SeqX n Try.prog 89 #[.pointer (some ⟨A, 0, none⟩)] encP (KZ Z) (fun ys => ys = setL m 0) (fun pre => pre <+: setL m 0) Bd w := by
  intro L J Jx W hW hB hJ hJx hY h0
  have HM := hid13 (hM.kz (kz_below hW))
  have HJ := hid13 hJ
  have HY := hid13 hY
  have H0 := hid13 h0
  have hmi : (m.length : Int) ≤ 100000000 := by omega
  have HL : Hid (m.length ≤ 100000000) := hl
  have a0 := HM.out.a
  have hL := fun (x : BitVec 32) (h : x ≠ 0#32) w => lead13_any x h w
  have HLd := hid13 hL
  clear hJ hJx hY h0 hM hL
  refine callsIn_of_wp Try.func89 rfl trivial ?_ rfl
  simp only [Try.ntmps89, List.size_toArray, List.length_cons, List.length_nil, Nat.reduceAdd, Nat.reduceSub, Array.replicate_succ, Array.replicate_zero, List.push_toArray, List.append_toArray, List.nil_append, List.cons_append]
  gi_wp2
  gi_loopw [8] (fun x8 wr => ∃ (k : Nat) (pre : List Int), k ≤ m.length ∧ x8 = .int .i64 (k : Int) ∧ Hid (pre ++ setL m (32 * k) = setL m 0) ∧ Hid (J pre wr) ∧ Hid (PlM Z A ao c m wr)) (fun x8 wr => m.length - (intOf13 x8).toNat)
  case atStart => exact ⟨0, [], Nat.zero_le _, rfl, hid13 rfl, H0, HM⟩
  case round =>
    clear H0 HM a0
    obtain ⟨k, pre, hk, rfl, HPr, HJw, HMw⟩ := hrel
    by_cases hlt : k < m.length
    · have hli : (k : Int) < (m.length : Int) := by omega
      obtain ⟨x, hx⟩ : ∃ x, m[k]? = some x := ⟨m[k], by simp [hlt]⟩
      obtain ⟨bb, off, hao, hcell⟩ : ∃ b off, ao = some ⟨b, off, none⟩ ∧ ∀ j x, m[j]? = some x → wr.cell? ⟨b, off + j, none⟩ = some (cU x) := by
        obtain ⟨ao', c', e, hc, hr⟩ := HMw.out.r
        injection e with e1 e2 e3
        subst e1
        rcases hr with h | h
        · rw [h] at hlt; simp at hlt
        · exact h
      subst hao
      have r0 := hcell k x hx
      unfold cU at r0
      have HLf : Hid (LfQ m k (32 * k) x) := hid13 (by
        have := lf_start m k
        rw [List.getD_eq_getElem?_getD, hx] at this
        exact this)
      have HK : Hid (k < m.length ∧ m.length ≤ 100000000) := ⟨hlt, hl⟩
      have mk : IntKind.i64.wrap ((k : Int) + 1) = ((k + 1 : Nat) : Int) := by rw [IntKind.wrap_i64]; omega
      clear hx hcell hk
      gi_wp2
      clear r0
      gi_loopw [4] (fun x4 wr => ∃ (p : Nat) (x : BitVec 32) (pre : List Int), x4 = .int .u32 (uI x) ∧ Hid (LfQ m k p x) ∧ Hid (pre ++ setL m p = setL m 0) ∧ Hid (J pre wr) ∧ Hid (PlM Z (A) (some ⟨bb, off, none⟩) c m wr)) (fun x4 wr => (intOf13 x4).toNat)
      case atStart => exact ⟨32 * k, x, pre, rfl, HLf, HPr, HJw, HMw⟩
      case round =>
        clear HLf HPr HJw HMw
        obtain ⟨p, x, pre, rfl, HLf, HPr, HJw, HMw⟩ := hrel
        by_cases hx0 : x = 0#32
        · subst hx0
          have h00 : uI 0#32 = 0 := uI_zero
          have HPr2 : Hid (pre ++ setL m (32 * (k + 1)) = setL m 0) := hid13 (by rw [← lf_end HLf.out HK.out.1]; exact HPr.out)
          clear HPr HLf
          rw [h00]
          gi_wp2
          go_roundw
          case rel => exact ⟨k + 1, pre, by have := HK.out; omega, rfl, HPr2, HJw, HMw⟩
          case measure =>
            have := HK.out
            first | (simp [intOf13]; omega) | (unfold intOf13; simp; omega)
        · have hxn : ¬ uI x = 0 := fun h => hx0 ((uI_is0 x).1 h)
          have KL := HLd.out x hx0
          clear hx0
          gi_wp2_with fail
          refine ⟨trivial, fun q => (by cases q), (callsIn_wide.2 (KL _)).mono ?_⟩
          rintro e w2 ⟨⟨q, rfl, hq⟩, hw2⟩
          subst hw2
          obtain ⟨hs, hlf⟩ := lf_hit HLf.out HK.out.1 hq
          have hq32 := hq.1
          have hqi : (q : Int) ≤ 31 := by omega
          have HLt := hid13 (sub_lt32 x q hq.1 hq.2.1)
          have HLf2 := hid13 hlf
          have HPr2 : Hid ((pre ++ [((32 * k + q : Nat) : Int)]) ++ setL m (32 * k + q + 1) = setL m 0) := hid13 (by rw [← HPr.out, hs]; simp)
          have HPx : Hid (pre ++ [((32 * k + q : Nat) : Int)] <+: setL m 0) := hid13 ⟨_, HPr2.out⟩
          obtain ⟨fn, tmps, assign, body, hy, hR⟩ := HY.out _ _ _ HJw.out HPx.out
          have e0 : ((32 * k + q : Nat) : Int) = (k : Int) * 32 + (q : Int) := by push_cast; omega
          rw [e0] at hy
          dsimp only [encP] at hy
          have m1 : IntKind.i64.wrap ((k : Int) * 32) = (k : Int) * 32 := by rw [IntKind.wrap_i64]; have := HK.out; omega
          have m2 : IntKind.i64.wrap ((k : Int) * 32 + (q : Int)) = (k : Int) * 32 + (q : Int) := by rw [IntKind.wrap_i64]; have := HK.out; omega
          obtain ⟨r, hr⟩ : ∃ r : Nat, r = 31 - q := ⟨_, rfl⟩
          have m3 : (31 : Int) - (q : Int) = (r : Int) := by omega
          have m4 : IntKind.i64.wrap (r : Int) = (r : Int) := by rw [IntKind.wrap_i64]; omega
          have m5 := tp_uI r (by omega)
          have m6 := sub32 x (tp r)
          rw [← hr] at HLt HLf2
          have hr31 : (r : Int) ≤ 31 := by omega
          clear KL hs hlf hq HPr HLf e0 hr hq32
          gi_wp2
          refine ⟨fun q => (by cases q), hR.mono ?_⟩
          rintro e W4 (⟨rfl, hJ4, hk4⟩ | ⟨rfl, hx4, -⟩)
          · have HM4 := hid13 (HMw.out.kz hk4)
            have HJ4 := hid13 hJ4
            clear hJ4 hk4 hy hR HMw HJw
            gi_wp2
            go_roundw
            case rel => exact ⟨32 * k + q + 1, _, _, rfl, HLf2, HPr2, HJ4, HM4⟩
            case measure => exact HLt.out
          · have HX4 := hid13 hx4
            clear hx4 hy hR HMw HJw
            gi_wp2
            exact bodyPost_ret (v := .tuple #[]) (by simp [results, Try.results89]) rfl ⟨⟨_, rfl⟩, .inr ⟨_, HPx.out, HX4.out⟩⟩
    · have HE : Hid (pre = setL m 0) := hid13 (by have := HPr.out; rw [setL_end (by omega), List.append_nil] at this; exact this)
      have hkm : k = m.length := by omega
      subst hkm
      clear HPr HMw
      gi_wp2
      go_end0
      exact ⟨⟨_, rfl⟩, .inl ⟨_, HE.out, HJw.out⟩⟩
end Go.Proofs.Ytdpmhpmnkollaaa
namespace Go.Proofs.Ytdpmhpmnkollaaa
open Go.RowKit
set_option linter.unusedSimpArgs false
set_option linter.unusedVariables false
attribute [local go_sem] Oper.semAt_some

def cmp18 (a b : Int) : Int := if a < b then -1 else if b < a then 1 else 0
theorem compare18 (a b : Int) (w : World) :
    Calls Try.prog 109 #[.int .i64 a, .int .i64 b] w fun e w' => e = .returned (.int .i64 (cmp18 a b)) ∧ w' = w := by
  unfold cmp18
  have haa : (a != a) = false := by simp
  have hbb : (b != b) = false := by simp
  by_cases h : a < b
  · rw [if_pos h]
    go_enter Try.func109, Try.ntmps109
    go_wp2_with go_in
    go_ret
    exact ⟨rfl, rfl⟩
  · rw [if_neg h]
    by_cases h2 : b < a
    · rw [if_pos h2]
      go_enter Try.func109, Try.ntmps109
      go_wp2_with go_in
      go_ret
      exact ⟨rfl, rfl⟩
    · rw [if_neg h2]
      go_enter Try.func109, Try.ntmps109
      go_wp2_with go_in
      go_ret
      exact ⟨rfl, rfl⟩
set_option maxHeartbeats 4000000 in
theorem bat1_18 (y t x : Int) (so eo : Option Addr) (sn sc en ec : Nat) (w : World) :
    Calls Try.prog 108 #[.agg #[.int .i64 y, .int .i64 t, .slice so sn sc, .slice eo en ec], .int .i64 x] w fun e w' => e = .returned (.int .i64 (cmp18 y x)) ∧ Below w.heap.size w w' := by
  have KC := fun w => compare18 y x w
  generalize cmp18 y x = z at *
  have HB := hid13 (bl1 w (.cells #[.int .i64 y, .int .i64 t, .slice so sn sc, .slice eo en ec] 111))
  go_enter Try.func108, Try.ntmps108
  go_wp2_with fail
  refine (KC _).mono ?_
  rintro e w1 ⟨rfl, hw⟩
  replace hw := hw.symm
  subst hw
  clear KC
  go_wp2
  go_ret
  exact ⟨rfl, HB.out⟩
def SrR (w : World) (g : Nat) (qs : List Int) : Prop := ∀ (j : Nat) (y : Int), qs[j]? = some y → ∃ (t : Int) (so eo : Option Addr) (sn sc en ec : Nat), w.cell? ⟨g, j * 4, none⟩ = some (.int .i64 y) ∧ w.cell? ⟨g, j * 4 + 1, none⟩ = some (.int .i64 t) ∧ w.cell? ⟨g, j * 4 + 2, none⟩ = some (.slice so sn sc) ∧ w.cell? ⟨g, j * 4 + 3, none⟩ = some (.slice eo en ec)
theorem SrR.below {w w' : World} {g : Nat} {qs : List Int} (h : SrR w g qs) (hb : Below w.heap.size w w') : SrR w' g qs := fun j y hj => by
  obtain ⟨t, so, eo, sn, sc, en, ec, h1, h2, h3, h4⟩ := h j y hj
  exact ⟨t, so, eo, sn, sc, en, ec, keepc hb h1, keepc hb h2, keepc hb h3, keepc hb h4⟩
theorem BsV.sr {W : World} {base g n c : Nat} {L : List Bv} {P : List PB} (h : BsV W base (.slice (some ⟨g, 0, none⟩) n c) L P) : SrR W g (P.map PB.a) := fun j y hj => by
  rw [List.getElem?_map] at hj
  cases hp : P[j]? with
  | none => rw [hp] at hj; cases hj
  | some p =>
    rw [hp] at hj
    injection hj with hj
    obtain ⟨x, hx, ho⟩ := h.get hp
    obtain ⟨a1, a2, a3, a4⟩ := rowB8_get L j x hx
    obtain ⟨so, sc, e1⟩ := own_form ho.2.2.1
    obtain ⟨eo, ec, e2⟩ := own_form ho.2.2.2
    have o1 := h.o
    have hn : n = L.length := by obtain ⟨ao, c', e⟩ := own_form h.o; injection e
    subst hn
    refine ⟨x.t, so, eo, p.m.length, sc, p.es.length, ec, ?_, (own_at18 o1 a2).1, ?_, ?_⟩
    · rw [(own_at18 o1 a1).1, ho.1]; rw [← hj]
    · rw [(own_at18 o1 a3).1, e1]
    · rw [(own_at18 o1 a4).1, e2]
def SrQ (qs : List Int) (x : Int) (e : Ending) : Prop := ∃ (i : Nat) (b : Bool), e = .returned (.tuple #[.int .i64 (i : Int), .bool b]) ∧ (b = true → fnB qs x = (i : Int) ∧ i < qs.length) ∧ (b = false → fnB qs x = -1)
set_option maxRecDepth 20000 in
set_option maxHeartbeats 8000000 in
theorem search18 (g c : Nat) (qs : List Int) (x : Int) (w : World) (hc : SrR w g qs) (hs : qs.Pairwise (· < ·)) (hl : qs.length ≤ 1000000000) :
    Calls Try.prog 107 #[.slice (some ⟨g, 0, none⟩) qs.length c, .int .i64 x, .func (.func 108) #[] #[]] w fun e w' => SrQ qs x e ∧ Below w.heap.size w w' := by
  have HC := hid13 hc
  have HS := hid13 hs
  have HL : Hid (qs.length ≤ 1000000000) := hl
  clear hc hs hl
  go_enter Try.func107, Try.ntmps107
  go_wp2_with fail
  go_loopg [9, 10] qs.length (fun gk lv hv wr => ∃ lo hi : Nat, lv = .int .i64 (lo : Int) ∧ hv = .int .i64 (hi : Int) ∧ Hid (lo ≤ hi ∧ hi ≤ qs.length ∧ hi - lo ≤ gk ∧ (∀ j y, j < lo → qs[j]? = some y → y < x) ∧ (∀ j y, hi ≤ j → qs[j]? = some y → x ≤ y)) ∧ Hid (Below w.heap.size w wr))
  case atStart => exact ⟨0, qs.length, rfl, rfl, hid13 ⟨Nat.zero_le _, Nat.le_refl _, by omega, fun j y h => by omega, fun j y h1 h2 => by have := (List.getElem?_eq_some_iff.mp h2).1; omega⟩, hid13 (Below.refl _ _)⟩
  case round =>
    obtain ⟨lo, hi, rfl, rfl, HI, HB⟩ := hrel
    by_cases hlt : (lo : Int) < (hi : Int)
    · obtain ⟨mm, hmm⟩ : ∃ mm, mm = (lo + hi) / 2 := ⟨_, rfl⟩
      have hml : mm < qs.length := by have := HI.out; omega
      obtain ⟨y, hy⟩ : ∃ y, qs[mm]? = some y := ⟨_, List.getElem?_eq_getElem hml⟩
      obtain ⟨t, so, eo, sn, sc, en, ec, c0, c1, c2, c3⟩ := (HC.out.below HB.out) mm y hy
      have hmi : (mm : Int) < (qs.length : Int) := by omega
      have hw1 : IntKind.i64.wrap ((lo : Int) + (hi : Int)) = (lo : Int) + (hi : Int) := by rw [IntKind.wrap_i64]; have := HI.out; have := HL.out; omega
      have hw2 : IntKind.u64.wrap ((lo : Int) + (hi : Int)) = (lo : Int) + (hi : Int) := by rw [IntKind.wrap_u64]; have := HI.out; have := HL.out; omega
      have hqi : ((lo : Int) + (hi : Int)) / 2 = (mm : Int) := by omega
      have m3 : IntKind.i64.wrap (mm : Int) = (mm : Int) := by rw [IntKind.wrap_i64]; have := HL.out; omega
      have m5 : wrap64 (mm : Int) = (mm : Int) := w64_n18 mm (by have := HL.out; omega)
      have m4 : IntKind.i64.wrap ((mm : Int) + 1) = ((mm + 1 : Nat) : Int) := by rw [IntKind.wrap_i64]; have := HL.out; push_cast; omega
      have HM : Hid (lo ≤ mm ∧ mm < hi ∧ qs[mm]? = some y) := ⟨by omega, by omega, hy⟩
      have HP := hid13 (fun j z (h1 : qs[j]? = some z) => ((fun h => by
        obtain ⟨a1, a2⟩ := List.getElem?_eq_some_iff.mp h1
        obtain ⟨b1, b2⟩ := List.getElem?_eq_some_iff.mp hy
        have := List.pairwise_iff_getElem.mp HS.out j mm a1 b1 h
        rw [a2, b2] at this
        exact this) : j < mm → z < y))
      have HQ := hid13 (fun j z (h1 : qs[j]? = some z) => ((fun h => by
        obtain ⟨a1, a2⟩ := List.getElem?_eq_some_iff.mp h1
        obtain ⟨b1, b2⟩ := List.getElem?_eq_some_iff.mp hy
        have := List.pairwise_iff_getElem.mp HS.out mm j b1 a1 h
        rw [a2, b2] at this
        exact this) : mm < j → y < z))
      have KC := bat1_18 y t x so eo sn sc en ec wr
      obtain ⟨cz, hcz⟩ : ∃ cz, cz = cmp18 y x := ⟨_, rfl⟩
      rw [← hcz] at KC
      clear hy hmm hml
      go_wp2_with fail
      refine KC.mono ?_
      rintro e w1 ⟨rfl, hb1⟩
      have HB1 := hid13 (keepb hb1 HB.out)
      clear KC hb1 HB c0 c1 c2 c3
      by_cases hyx : y < x
      · have HN : Hid (mm + 1 ≤ hi ∧ hi ≤ qs.length ∧ hi - (mm + 1) ≤ gk - 1 ∧ (∀ j z, j < mm + 1 → qs[j]? = some z → z < x) ∧ (∀ j z, hi ≤ j → qs[j]? = some z → x ≤ z)) := by
          refine ⟨by have := HM.out; omega, HI.out.2.1, by have := HM.out; have := HI.out; omega, fun j z hj hz => ?_, HI.out.2.2.2.2⟩
          by_cases e : j = mm
          · subst e
            rw [HM.out.2.2] at hz
            injection hz with hz
            omega
          · have := HP.out j z hz (by omega)
            omega
        have HG : Hid (gk - 1 < gk) := by have := HM.out; have := HI.out; show _ < _; omega
        have hcn : cz < 0 := by rw [hcz]; unfold cmp18; rw [if_pos hyx]; decide
        clear HI HM HP HQ hcz hyx
        go_wp2
        go_roundg (gk - 1)
        case measure => exact HG.out
        case rel => exact ⟨mm + 1, hi, rfl, rfl, HN, HB1⟩
      · have HN : Hid (lo ≤ mm ∧ mm ≤ qs.length ∧ mm - lo ≤ gk - 1 ∧ (∀ j z, j < lo → qs[j]? = some z → z < x) ∧ (∀ j z, mm ≤ j → qs[j]? = some z → x ≤ z)) := by
          refine ⟨HM.out.1, by have := HM.out; have := HI.out; omega, by have := HM.out; have := HI.out; omega, HI.out.2.2.2.1, fun j z hj hz => ?_⟩
          by_cases e : j = mm
          · subst e
            rw [HM.out.2.2] at hz
            injection hz with hz
            omega
          · have := HQ.out j z hz (by omega)
            omega
        have HG : Hid (gk - 1 < gk) := by have := HM.out; have := HI.out; show _ < _; omega
        have hcn : ¬ cz < 0 := by rw [hcz]; unfold cmp18; rw [if_neg hyx]; split <;> decide
        clear HI HM HP HQ hcz hyx
        go_wp2
        go_roundg (gk - 1)
        case measure => exact HG.out
        case rel => exact ⟨lo, mm, rfl, rfl, HN, HB1⟩
    · have hle : lo = hi := by have := HI.out.1; omega
      subst hle
      by_cases hin : lo < qs.length
      · obtain ⟨y, hy⟩ : ∃ y, qs[lo]? = some y := ⟨_, List.getElem?_eq_getElem hin⟩
        obtain ⟨t, so, eo, sn, sc, en, ec, c0, c1, c2, c3⟩ := (HC.out.below HB.out) lo y hy
        have hin' : (lo : Int) < (qs.length : Int) := by omega
        have KC := bat1_18 y t x so eo sn sc en ec wr
        have HF : Hid (∀ b, b = (cmp18 y x == 0) → (b = true → fnB qs x = (lo : Int) ∧ lo < qs.length) ∧ (b = false → fnB qs x = -1)) := hid13 (fun b hb => by
          have h1 := HI.out.2.2.2.2 lo y (Nat.le_refl _) hy
          subst hb
          unfold cmp18
          constructor
          · intro q
            have e : y = x := by
              split at q
              · cases q
              · split at q
                · cases q
                · omega
            subst e
            exact ⟨fnB_at HS.out hy, hin⟩
          · intro q
            have e : x < y := by
              split at q
              · omega
              · split at q
                · omega
                · simp at q
            refine fnB_no (fun i z hz => ?_)
            by_cases hi : i < lo
            · have := HI.out.2.2.2.1 i z hi hz
              omega
            · by_cases hi2 : i = lo
              · subst hi2
                rw [hy] at hz
                injection hz with hz
                omega
              · obtain ⟨a1, a2⟩ := List.getElem?_eq_some_iff.mp hz
                obtain ⟨b1, b2⟩ := List.getElem?_eq_some_iff.mp hy
                have := List.pairwise_iff_getElem.mp HS.out lo i b1 a1 (by omega)
                rw [a2, b2] at this
                omega)
        generalize cmp18 y x = cz at *
        clear hlt hin hy
        go_wp2_with fail
        refine KC.mono ?_
        rintro e w1 ⟨rfl, hb1⟩
        have HB1 := hid13 (keepb hb1 HB.out)
        clear KC hb1 HB c0 c1 c2 c3
        go_wp2
        exact bodyPost_ret (v := .tuple #[.int .i64 (lo : Int), .bool (cz == 0)]) (by simp [results, Try.results107, go_sem]) rfl ⟨⟨lo, (cz == 0), rfl, HF.out _ rfl⟩, HB1.out⟩
      · have hin' : ¬ (lo : Int) < (qs.length : Int) := by omega
        have HF : Hid (fnB qs x = -1) := hid13 (fnB_no (fun i z hz => by
          have := (List.getElem?_eq_some_iff.mp hz).1
          have := HI.out.2.2.2.1 i z (by omega) hz
          omega))
        clear hlt hin
        go_wp2
        exact bodyPost_ret (v := .tuple #[.int .i64 (lo : Int), .bool false]) (by simp [results, Try.results107, go_sem]) rfl ⟨⟨lo, false, rfl, fun q => (by cases q), fun _ => HF.out⟩, HB.out⟩
set_option maxHeartbeats 4000000 in
theorem blockAt18 (PB' g c : Nat) (qs : List Int) (x : Int) (w : World) (h0 : w.cell? ⟨PB', 0, none⟩ = some (.slice (some ⟨g, 0, none⟩) qs.length c)) (hc : SrR w g qs) (hs : qs.Pairwise (· < ·)) (hl : qs.length ≤ 1000000000) :
    Calls Try.prog 85 #[.pointer (some ⟨PB', 0, none⟩), .int .i64 x] w fun e w' => SrQ qs x e ∧ Below w.heap.size w w' := by
  have KS := search18 g c qs x w hc hs hl
  clear hc hs hl
  go_enter Try.func85, Try.ntmps85
  go_wp2_with fail
  refine KS.mono ?_
  rintro e w1 ⟨⟨i, b, rfl, h1, h2⟩, hb⟩
  have HF := hid13 (And.intro h1 (And.intro h2 hb))
  clear h1 h2 hb KS
  go_wp2
  exact bodyPost_ret (v := .tuple #[.int .i64 (i : Int), .bool b]) (by simp [results, Try.results85, go_sem]) rfl ⟨⟨i, b, rfl, HF.out.1, HF.out.2.1⟩, HF.out.2.2⟩
end Go.Proofs.Ytdpmhpmnkollaaa
namespace Go.Proofs.Ytdpmhpmnkollaaa
open Go.RowKit
set_option linter.unusedSimpArgs false
set_option linter.unusedVariables false
attribute [local go_sem] Oper.semAt_some

structure PgV (w W : World) (base Q : Nat) (vb : Value) (dp an : Int) (L : List Bv) (P : List PB) : Prop where
  g : W.heap[Q]? = some (.cells #[vb, .int .i64 dp, .int .i64 an] 81)
  b : BsV W base vb L P
  bQ : base ≤ Q
  lo : Below base w W
section
variable {w W W' : World} {base Q : Nat} {vb : Value} {dp an : Int} {L : List Bv} {P : List PB}
theorem PgV.sz (h : PgV w W base Q vb dp an L P) : base ≤ W.heap.size := Nat.le_of_lt (Nat.lt_of_le_of_lt h.bQ (lt_16 h.g))
theorem PgV.below (h : PgV w W base Q vb dp an L P) (hb : Below W.heap.size W W') : PgV w W' base Q vb dp an L P := ⟨(hb.block _ (lt_16 h.g)).trans h.g, h.b.below hb, h.bQ, h.lo.trans (hb.mono h.sz)⟩
theorem PgV.c0 (h : PgV w W base Q vb dp an L P) : W.cell? ⟨Q, 0, none⟩ = some vb := at_16 h.g 0 _ rfl
theorem PgV.blk {g n c k : Nat} {p : PB} (h : PgV w W base Q (.slice (some ⟨g, 0, none⟩) n c) dp an L P) (hp : P[k]? = some p) : ∃ x, L[k]? = some x ∧ x.a = p.a ∧ x.t = p.t ∧ BkO W base x p ∧ W.cell? ⟨g, k * 4, none⟩ = some (.int .i64 p.a) ∧ W.cell? ⟨g, k * 4 + 1, none⟩ = some (.int .i64 p.t) ∧ W.cell? ⟨g, k * 4 + 2, none⟩ = some x.vs ∧ W.cell? ⟨g, k * 4 + 3, none⟩ = some x.ve := by
  obtain ⟨x, hx, ho⟩ := h.b.get hp
  obtain ⟨a1, a2, a3, a4⟩ := rowB8_get L k x hx
  have o1 := h.b.o
  have hn : n = L.length := by obtain ⟨ao, c', e⟩ := own_form h.b.o; injection e
  subst hn
  refine ⟨x, hx, ho.1, ho.2.1, ho, ?_, ?_, (own_at18 o1 a3).1, (own_at18 o1 a4).1⟩
  · rw [(own_at18 o1 a1).1, ho.1]
  · rw [(own_at18 o1 a2).1, ho.2.1]
theorem PgV.lnk {g cap k i : Nat} {x : Bv} {p : PB} {e : Bool × Int} (h : PgV w W base Q vb dp an L P) (hx : L[k]? = some x) (hp : P[k]? = some p) (hv : x.ve = .slice (some ⟨g, 0, none⟩) p.es.length cap) (he : p.es[i]? = some e) (n : Int) :
    PgV w (W.setCell ⟨g, i * 2 + 1, none⟩ (.int .i64 n)) base Q vb dp an L (P.set k { p with es := p.es.set i (e.1, n) }) := by
  have ho := (h.b.m k x p hx hp).2.2.2
  obtain ⟨cs, hc⟩ := own_typed18 ho g (by rw [hv]; rfl)
  refine ⟨(far_16 (fun q => ?_)).trans h.g, h.b.link hx hp hv he n, h.bQ, h.lo.setCell (p := ⟨g, i * 2 + 1, none⟩) (ho.lt g (by rw [hv]; rfl)).1 _⟩
  have := h.g
  rw [q, hc] at this
  injection this with this
  injection this with _ h3 _
  exact absurd h3 (by decide)
end
theorem placeOf18 (a t : Int) (so eo : Option Addr) (sn sc en ec : Nat) (k : Int) (w : World) (h : 0 ≤ a ∧ a ≤ 1000000000 ∧ sn ≤ 1000000000 ∧ 0 ≤ k ∧ k ≤ 1000000000) :
    Calls Try.prog 86 #[.agg #[.int .i64 a, .int .i64 t, .slice so sn sc, .slice eo en ec], .int .i64 k] w fun e w' => e = .returned (.int .i64 (a + 2 + (sn : Int) + k)) ∧ Below w.heap.size w w' := by
  have m1 : IntKind.i64.wrap (a + 2) = a + 2 := by rw [IntKind.wrap_i64]; omega
  have m2 : IntKind.i64.wrap (a + 2 + (sn : Int)) = a + 2 + (sn : Int) := by rw [IntKind.wrap_i64]; omega
  have m3 : IntKind.i64.wrap (a + 2 + (sn : Int) + k) = a + 2 + (sn : Int) + k := by rw [IntKind.wrap_i64]; omega
  clear h
  go_enter Try.func86, Try.ntmps86
  go_wp2
  go_ret
  exact ⟨rfl, bl1 _ _⟩
def LkQ (w : World) (base Q : Nat) (vb : Value) (L : List Bv) (qs : List Int) (P : List PB) (e : Ending) (W' : World) : Prop :=
  e = .returned (.tuple #[.int .i64 (lkR qs P).1, .int .i64 (lkR qs P).2]) ∧ ((lkR qs P).2 = 0 → PgV w W' base Q vb 0 0 L (P.map (lkB qs))) ∧ Below base w W'
theorem LkQ.no {w W' : World} {base Q : Nat} {vb : Value} {L : List Bv} {qs : List Int} {P : List PB} {p : Int} (h : lkA qs P = some p) (hb : Below base w W') : LkQ w base Q vb L qs P (.returned (.tuple #[.int .i64 p, .int .i64 26])) W' := by
  have e : lkR qs P = (p, 26) := by unfold lkR; rw [h]
  refine ⟨by rw [e], fun q => ?_, hb⟩
  rw [e] at q; cases q
theorem LkQ.ok {w W' : World} {base Q : Nat} {vb : Value} {L : List Bv} {qs : List Int} {P : List PB} (h : lkA qs P = none) (hb : PgV w W' base Q vb 0 0 L (P.map (lkB qs))) : LkQ w base Q vb L qs P (.returned (.tuple #[.int .i64 0, .int .i64 0])) W' := by
  have e : lkR qs P = (0, 0) := by unfold lkR; rw [h]
  exact ⟨by rw [e], fun _ => hb, hb.lo⟩
structure LkI (w : World) (base Q : Nat) (vb : Value) (L : List Bv) (A B : List PB) (b : PB) (X Y : List (Bool × Int)) (Cb : Nat) (x : Bv) (W : World) : Prop where
  p : PgV w W base Q vb 0 0 L (A ++ { b with es := X ++ Y } :: B)
  c : W.heap[Cb]? = some (.cells #[.int .i64 b.a, .int .i64 b.t, x.vs, x.ve] 111)
set_option maxRecDepth 20000 in
set_option maxHeartbeats 16000000 in
theorem link18 (w : World) (base Q : Nat) (vb : Value) (L : List Bv) (P : List PB) (h : PgV w w base Q vb 0 0 L P) (qs : List Int) (hqs : qs = P.map PB.a) (hs : qs.Pairwise (· < ·)) (h0 : 0 < P.length) (hl : P.length ≤ 100000000) (hb : ∀ b ∈ P, 0 ≤ b.a ∧ b.a ≤ 100000000 ∧ b.m.length ≤ 100000000 ∧ b.es.length ≤ 100000000) :
    Calls Try.prog 63 #[.pointer (some ⟨Q, 0, none⟩)] w (LkQ w base Q vb L qs P) := by
  obtain ⟨g, c, hvb, -⟩ := own_some18 h.b.o (by rw [h.b.l]; exact h0)
  subst hvb
  have hLl := h.b.l
  have c0 := h.c0
  have HQ : Hid (qs = P.map PB.a ∧ qs.Pairwise (· < ·) ∧ L.length = P.length ∧ P.length ≤ 100000000) := ⟨hqs, hs, hLl, hl⟩
  have HB := hid13 hb
  have HP0 := hid13 h
  obtain ⟨n, hn⟩ : ∃ n, n = L.length := ⟨_, rfl⟩
  rw [← hn] at c0
  have HN := hid13 hn
  clear h hqs hs h0 hl hb hLl hn
  go_enter Try.func63, Try.ntmps63
  go_wp2_with fail
  go_loopg [15] n (fun gk jv wr => ∃ (j : Nat) (A0 B : List PB), j + gk = n ∧ jv = .int .i64 (j : Int) ∧ Hid (P = A0 ++ B ∧ A0.length = j ∧ lkA qs B = lkA qs P ∧ PgV w wr base Q (.slice (some ⟨g, 0, none⟩) L.length c) 0 0 L (A0.map (lkB qs) ++ B)))
  case atStart => exact ⟨0, [], P, by omega, rfl, hid13 ⟨rfl, rfl, rfl, HP0.out⟩⟩
  case round =>
    clear HP0 c0
    obtain ⟨j, A0, B, hk, rfl, HI⟩ := hrel
    by_cases hlt : (j : Int) < (n : Int)
    · obtain ⟨b, B', hB⟩ : ∃ b B', B = b :: B' := by
        cases hB : B with
        | nil =>
          have e1 := HI.out.1
          have e2 := HI.out.2.1
          rw [hB, List.append_nil] at e1
          have := HQ.out.2.2.1
          have := HN.out
          rw [e1] at *
          omega
        | cons b B' => exact ⟨b, B', rfl⟩
      subst hB
      obtain ⟨hPA, hjA, hlk, hpg⟩ := HI.out
      have hmem : b ∈ P := by rw [hPA]; simp
      have hbb := HB.out b hmem
      have hge : (A0.map (lkB qs) ++ b :: B')[j]? = some b := by rw [← hjA]; simp
      obtain ⟨x, hx, hxa, hxt, hxo, d0, d1, d2, d3⟩ := hpg.blk hge
      obtain ⟨so, sc, hso⟩ := own_form hxo.2.2.1
      obtain ⟨eo, ec, heo⟩ := own_form hxo.2.2.2
      rw [hso] at d2
      rw [heo] at d3
      have q1 := bl1 wr (.cells #[.int .i64 b.a, .int .i64 b.t, .slice so b.m.length sc, .slice eo b.es.length ec] 111)
      have HIn0 : Hid (LkI w base Q (.slice (some ⟨g, 0, none⟩) L.length c) L (A0.map (lkB qs)) B' b [] b.es wr.heap.size x (wr.alloc (.cells #[.int .i64 b.a, .int .i64 b.t, .slice so b.m.length sc, .slice eo b.es.length ec] 111))) := ⟨hpg.below q1, by rw [hso, heo]; exact new_16 _ _⟩
      obtain ⟨GK, hGK⟩ : ∃ GK, GK = gk := ⟨_, rfl⟩
      have HJ : Hid (j + GK = n ∧ GK = gk ∧ j < n) := ⟨by omega, hGK, by omega⟩
      have HX : Hid (L[j]? = some x ∧ x.vs = .slice so b.m.length sc ∧ x.ve = .slice eo b.es.length ec ∧ (A0.map (lkB qs)).length = j) := ⟨hx, hso, heo, by rw [List.length_map]; exact hjA⟩
      have HPA : Hid (P = A0 ++ b :: B' ∧ A0.length = j ∧ lkA qs (b :: B') = lkA qs P) := ⟨hPA, hjA, hlk⟩
      have HBb := hid13 hbb
      have mj : IntKind.i64.wrap ((j : Int) + 1) = ((j + 1 : Nat) : Int) := by rw [IntKind.wrap_i64]; have := HQ.out; have := HN.out; push_cast; omega
      obtain ⟨Cb, hCb⟩ : ∃ Cb, Cb = wr.heap.size := ⟨_, rfl⟩
      obtain ⟨ba, hba⟩ : ∃ y, y = b.a := ⟨_, rfl⟩
      obtain ⟨bt, hbt⟩ : ∃ y, y = b.t := ⟨_, rfl⟩
      obtain ⟨bm, hbm⟩ : ∃ y, y = b.m.length := ⟨_, rfl⟩
      obtain ⟨bn, hbn⟩ : ∃ y, y = b.es.length := ⟨_, rfl⟩
      rw [← hba, ← hbt, ← hbm, ← hbn] at HIn0
      rw [← hba] at d0
      rw [← hbt] at d1
      rw [← hbm] at d2 HX
      rw [← hbn] at d3 HX
      rw [← hba, ← hbm, ← hbn] at HBb
      have HBs : Hid (ba = b.a ∧ bt = b.t ∧ bm = b.m.length ∧ bn = b.es.length) := ⟨hba, hbt, hbm, hbn⟩
      clear hPA hjA hlk hpg hmem hbb hge hx hxa hxt hxo hso heo q1 hGK hk HI hba hbt hbm hbn
      go_wp2_with fail
      rw [← hCb] at HIn0 ⊢
      revert HIn0
      generalize wr.alloc (.cells #[.int .i64 ba, .int .i64 bt, .slice so bm sc, .slice eo bn ec] 111) = W0
      intro HIn0
      clear d0 d1 d2 d3 hCb
      go_loopg [22] bn (fun gk iv wr2 => ∃ (i : Nat) (X0 Y : List (Bool × Int)), i + gk = bn ∧ iv = .int .i64 (i : Int) ∧ Hid (b.es = X0 ++ Y ∧ X0.length = i ∧ (match lkI qs (b.a + 2 + (b.m.length : Int) + (i : Int)) Y with | some p => some p | none => lkA qs B') = lkA qs P ∧ LkI w base Q (.slice (some ⟨g, 0, none⟩) L.length c) L (A0.map (lkB qs)) B' b (X0.map (lkX qs)) Y Cb x wr2))
      case atStart => exact ⟨0, [], b.es, by omega, rfl, hid13 ⟨rfl, rfl, by rw [← HPA.out.2.2, Int.natCast_zero, Int.add_zero]; rfl, HIn0.out⟩⟩
      case round =>
        clear HIn0
        obtain ⟨i, X0, Y, hk2, rfl, HI2⟩ := hrel
        have hXl : (X0.map (lkX qs)).length = i := by rw [List.length_map]; exact HI2.out.2.1
        have hEl : (X0.map (lkX qs) ++ Y).length = bn := by
          rw [List.length_append, List.length_map, HBs.out.2.2.2, HI2.out.1, List.length_append]
        have hge : (A0.map (lkB qs) ++ { b with es := X0.map (lkX qs) ++ Y } :: B')[j]? = some { b with es := X0.map (lkX qs) ++ Y } := by rw [← HX.out.2.2.2]; simp
        by_cases hlt2 : (i : Int) < (bn : Int)
        · obtain ⟨e, Y', hY⟩ : ∃ e Y', Y = e :: Y' := by
            cases hY : Y with
            | nil =>
              rw [hY, List.append_nil] at hEl
              omega
            | cons e Y' => exact ⟨e, Y', rfl⟩
          subst hY
          obtain ⟨eb, en⟩ := e
          obtain ⟨hes, hXi, hres, hLI⟩ := HI2.out
          have hbo := (hLI.p.b.m j x _ HX.out.1 hge).2.2.2
          dsimp only at hbo
          rw [hEl, HX.out.2.2.1] at hbo
          obtain ⟨eg, ec', hee, -⟩ := own_some18 hbo (by omega)
          injection hee with he1 he2 he3
          subst he1 he3
          have hei : (X0.map (lkX qs) ++ (eb, en) :: Y')[i]? = some (eb, en) := by rw [← hXl]; simp
          obtain ⟨r1, r2⟩ := rowE8_get _ _ _ hei
          have k1 := (own_at18 hbo r1).1
          have k2 := (own_at18 hbo r2).1
          dsimp only at k1 k2
          have hcb := hLI.c
          rw [HX.out.2.1, HX.out.2.2.1, ← HBs.out.1, ← HBs.out.2.1] at hcb
          have q1 := bl1 wr (.cells #[.bool eb, .int .i64 en] 135)
          have HLI1 : Hid (LkI w base Q (.slice (some ⟨g, 0, none⟩) L.length c) L (A0.map (lkB qs)) B' b (X0.map (lkX qs)) ((eb, en) :: Y') Cb x (wr.alloc (.cells #[.bool eb, .int .i64 en] 135))) := ⟨hLI.p.below q1, (q1.block _ (lt_16 hLI.c)).trans hLI.c⟩
          have mi : IntKind.i64.wrap ((i : Int) + 1) = ((i + 1 : Nat) : Int) := by rw [IntKind.wrap_i64]; have := HBb.out; push_cast; omega
          have HK2 : Hid (i + gk = bn ∧ i < bn) := ⟨hk2, by omega⟩
          have HRs := hid13 hres
          have HEs : Hid (b.es = (X0 ++ [(eb, en)]) ++ Y' ∧ (X0 ++ [(eb, en)]).length = i + 1) := ⟨by rw [hes]; simp, by rw [List.length_append, hXi]; rfl⟩
          have HEi : Hid ((X0.map (lkX qs) ++ (eb, en) :: Y')[i]? = some (eb, en) ∧ (X0.map (lkX qs)).length = i ∧ (X0.map (lkX qs) ++ (eb, en) :: Y').length = bn) := ⟨hei, hXl, hEl⟩
          clear hes hXi hres hLI hbo he2 hei r1 r2 hcb q1 hk2 HI2 hge hXl hEl
          cases eb with
          | false =>
            have HRs2 : Hid ((match lkI qs (b.a + 2 + (b.m.length : Int) + ((i + 1 : Nat) : Int)) Y' with | some p => some p | none => lkA qs B') = lkA qs P) := hid13 (by
              have := HRs.out
              unfold lkI at this
              rw [if_neg (by simp)] at this
              rw [← this, show b.a + 2 + (b.m.length : Int) + ((i + 1 : Nat) : Int) = b.a + 2 + (b.m.length : Int) + (i : Int) + 1 by omega])
            have HL2 : Hid (LkI w base Q (.slice (some ⟨g, 0, none⟩) L.length c) L (A0.map (lkB qs)) B' b ((X0 ++ [(false, en)]).map (lkX qs)) Y' Cb x (wr.alloc (.cells #[.bool false, .int .i64 en] 135))) := hid13 (by
              have := HLI1.out
              rw [List.map_append]
              refine ⟨?_, this.c⟩
              have h9 := this.p
              rw [List.append_assoc]
              exact h9)
            clear HRs HLI1
            go_wp2
            go_roundg (gk - 1)
            case measure => have := HK2.out; omega
            case rel => exact ⟨i + 1, _, _, by have := HK2.out; omega, rfl, hid13 ⟨HEs.out.1, HEs.out.2, HRs2.out, HL2.out⟩⟩
          | true =>
            have hpc0 := HLI1.out.p.c0
            have hnn : L.length = n := HN.out.symm
            have hsr := HLI1.out.p.b.sr
            have hmp : (A0.map (lkB qs) ++ { b with es := X0.map (lkX qs) ++ (true, en) :: Y' } :: B').map PB.a = qs := by
              rw [HQ.out.1, HPA.out.1]
              simp [lkB, Function.comp_def]
            rw [hmp] at hsr
            have hql : qs.length = n := by rw [HQ.out.1, List.length_map, HN.out, HQ.out.2.2.1]
            have KB := blockAt18 Q g c qs en _ (by rw [hql, ← hnn]; exact hpc0) hsr HQ.out.2.1 (by have := HQ.out.2.2.2; have := HQ.out.2.2.1; omega)
            clear hpc0 hsr hmp hnn
            go_wp2_with fail
            refine KB.mono ?_
            rintro e9 W3 ⟨⟨i3, bf, rfl, hf1, hf2⟩, hb3⟩
            have HL3 : Hid (LkI w base Q (.slice (some ⟨g, 0, none⟩) L.length c) L (A0.map (lkB qs)) B' b (X0.map (lkX qs)) ((true, en) :: Y') Cb x W3) := ⟨HLI1.out.p.below hb3, (hb3.block _ (lt_16 HLI1.out.c)).trans HLI1.out.c⟩
            clear KB HLI1 hb3 hql
            have hcb := HL3.out.c
            rw [HX.out.2.1, HX.out.2.2.1, ← HBs.out.1, ← HBs.out.2.1] at hcb
            have z0 := at_16 hcb 0 _ rfl
            have z1 := at_16 hcb 1 _ rfl
            have z2 := at_16 hcb 2 _ rfl
            have z3 := at_16 hcb 3 _ rfl
            clear k1 k2
            cases bf with
            | false =>
              have hfn := hf2 rfl
              have HRes : Hid (lkA qs P = some (ba + 2 + (bm : Int) + (i : Int))) := hid13 (by
                have := HRs.out
                unfold lkI at this
                rw [if_pos ⟨rfl, hfn⟩] at this
                rw [← this, HBs.out.1, HBs.out.2.2.1])
              have KP := placeOf18 ba bt so (some ⟨eg, 0, none⟩) bm sc bn ec (i : Int) W3 (by have := HBb.out; have := HK2.out; omega)
              have HLo := hid13 HL3.out.p
              clear hf1 hf2 hfn HRs HL3 hcb
              go_wp2_with fail
              refine KP.mono ?_
              rintro e8 W4 ⟨rfl, hb4⟩
              have HF := hid13 (HLo.out.lo.trans (hb4.mono HLo.out.sz))
              clear KP HLo hb4
              go_wp2
              exact bodyPost_ret (v := .tuple #[.int .i64 (ba + 2 + (bm : Int) + (i : Int)), .int .i64 26]) (by simp [results, Try.results63, go_sem]) rfl (LkQ.no HRes.out HF.out)
            | true =>
              obtain ⟨hfn, hil⟩ := hf1 rfl
              have HRs2 : Hid ((match lkI qs (b.a + 2 + (b.m.length : Int) + ((i + 1 : Nat) : Int)) Y' with | some p => some p | none => lkA qs B') = lkA qs P) := hid13 (by
                have := HRs.out
                unfold lkI at this
                rw [if_neg (fun q => by rw [hfn] at q; have := q.2; omega)] at this
                rw [← this, show b.a + 2 + (b.m.length : Int) + ((i + 1 : Nat) : Int) = b.a + 2 + (b.m.length : Int) + (i : Int) + 1 by omega])
              have hge : (A0.map (lkB qs) ++ { b with es := X0.map (lkX qs) ++ (true, en) :: Y' } :: B')[j]? = some { b with es := X0.map (lkX qs) ++ (true, en) :: Y' } := by rw [← HX.out.2.2.2]; simp
              have hln := HL3.out.p.lnk HX.out.1 hge (by rw [HX.out.2.2.1]; dsimp only; rw [HEi.out.2.2]) HEi.out.1 (i3 : Int)
              obtain ⟨csE, hcsE⟩ := own_typed18 (HL3.out.p.b.m j x _ HX.out.1 hge).2.2.2 eg (by rw [HX.out.2.2.1]; rfl)
              have hoo := (HL3.out.p.b.m j x _ HX.out.1 hge).2.2.2
              dsimp only at hoo
              rw [HEi.out.2.2, HX.out.2.2.1] at hoo
              have hre := (rowE8_get _ _ _ HEi.out.1).2
              obtain ⟨y1, y2⟩ := own_at18 hoo hre
              dsimp only at y1 y2
              have HL4 : Hid (LkI w base Q (.slice (some ⟨g, 0, none⟩) L.length c) L (A0.map (lkB qs)) B' b ((X0 ++ [(true, en)]).map (lkX qs)) Y' Cb x (W3.setCell ⟨eg, i * 2 + 1, none⟩ (.int .i64 (i3 : Int)))) := hid13 (by
                refine ⟨?_, (far_16 (fun q => ?_)).trans HL3.out.c⟩
                · have e1 : (A0.map (lkB qs) ++ { b with es := X0.map (lkX qs) ++ (true, en) :: Y' } :: B').set j { b with es := (X0.map (lkX qs) ++ (true, en) :: Y').set i (true, (i3 : Int)) } = A0.map (lkB qs) ++ { b with es := (X0 ++ [(true, en)]).map (lkX qs) ++ Y' } :: B' := by
                    have e2 : (X0.map (lkX qs) ++ (true, en) :: Y').set i (true, (i3 : Int)) = (X0 ++ [(true, en)]).map (lkX qs) ++ Y' := by
                      rw [← HEi.out.2.1]
                      simp [lkX, hfn]
                    rw [e2, ← HX.out.2.2.2]
                    simp
                  rw [← e1]
                  exact hln
                · have := HL3.out.c
                  rw [q, hcsE] at this
                  injection this with this
                  injection this with _ h3 _
                  exact absurd h3 (by decide))
              clear hf1 hf2 hfn HRs HL3 hcb hln hcsE hoo hre hge
              have hii : (i : Int) < (bn : Int) := by have := HK2.out; omega
              go_wp2
              go_roundg (gk - 1)
              case measure => have := HK2.out; omega
              case rel => exact ⟨i + 1, _, _, by have := HK2.out; omega, rfl, hid13 ⟨HEs.out.1, HEs.out.2, HRs2.out, HL4.out⟩⟩
        · have HFin : Hid (P = (A0 ++ [b]) ++ B' ∧ (A0 ++ [b]).length = j + 1 ∧ lkA qs B' = lkA qs P ∧ PgV w wr base Q (.slice (some ⟨g, 0, none⟩) L.length c) 0 0 L ((A0 ++ [b]).map (lkB qs) ++ B')) := hid13 (by
            have hYn : Y = [] := by
              have e1 := HI2.out.2.1
              rw [List.length_append, List.length_map, e1] at hEl
              exact List.eq_nil_of_length_eq_zero (by omega)
            obtain ⟨hes, hXi, hres, hLI⟩ := HI2.out
            rw [hYn] at hes hres hLI
            rw [List.append_nil] at hes
            refine ⟨by rw [HPA.out.1]; simp, by rw [List.length_append, HPA.out.2.1]; rfl, hres, ?_⟩
            have h9 := hLI.p
            rw [List.append_nil, ← hes] at h9
            rw [List.map_append]
            simp only [List.map_cons, List.map_nil, List.append_assoc, List.singleton_append]
            exact h9)
          clear HI2 hge hXl hEl hk2
          go_wp2
          go_roundg (GK - 1)
          case measure => have := HJ.out; omega
          case rel => exact ⟨j + 1, _, _, by have := HJ.out; omega, rfl, HFin⟩
    · have HFin : Hid (lkA qs P = none ∧ PgV w wr base Q (.slice (some ⟨g, 0, none⟩) L.length c) 0 0 L (P.map (lkB qs))) := hid13 (by
        obtain ⟨hPA, hjA, hlk, hpg⟩ := HI.out
        have hBn : B = [] := by
          have e2 : P.length = A0.length + B.length := by rw [hPA, List.length_append]
          have := HQ.out.2.2.1
          have := HN.out
          exact List.eq_nil_of_length_eq_zero (by omega)
        rw [hBn] at hPA hlk hpg
        rw [List.append_nil] at hPA hpg
        exact ⟨hlk.symm, by rw [hPA]; exact hpg⟩)
      clear HI hk
      go_wp2
      exact bodyPost_ret (v := .tuple #[.int .i64 0, .int .i64 0]) (by simp [results, Try.results63, go_sem]) rfl (LkQ.ok HFin.out.1 HFin.out.2)
end Go.Proofs.Ytdpmhpmnkollaaa
