/-
  Part 4 of the proof: 4 texts, one behind the other.
-/
import Derived.Test.YthbdmdafldombaaDoorPart3
import Derived.Test.YthbdmdafldombaaDoorPart1
import Derived.WalkMore
import Derived.ScopeJumps
import Derived.Test.YthbdmdafldombaaDoorPart2
import Derived.Lib.SlBytesConst
namespace Go.Proofs.YthbdmdafldombaaDoor
open Go.RowKit
set_option linter.unusedSimpArgs false
set_option linter.unusedVariables false

set_option maxRecDepth 100000 in
set_option maxHeartbeats 16000000 in
theorem runfold13_none (ao : Option Addr) (cc : Nat) (lo : Option Addr) (lc : Nat) (L : List Int) (w : World) (hv : RwX cU w (.slice ao 0 cc) []) (hE : ∀ W, ¬ UnQ [] ((0 : Nat) : Int) L → UnEI w W [] ((0 : Nat) : Int) L (.returned (.tuple #[.slice none 0 0, .int .i64 25]))) :
    Calls Tryd.prog 33 #[.slice ao 0 cc, .int .i64 ((0 : Nat) : Int), .slice lo L.length lc] w fun e w' => UnEI w w' [] ((0 : Nat) : Int) L e ∧ Below w.heap.size w w' := by
  have HV := hid13 hv
  have HE' := hid13 hE
  have KO := rones13 _ [] w HV.out (by decide)
  rw [show sumW ([] : List (BitVec 32)) ([] : List (BitVec 32)).length = 0 from rfl] at KO
  clear hv hE
  by_cases hL : L = []
  · subst hL
    have HQ : Hid (UnEI w w [] ((0 : Nat) : Int) [] (.returned (.tuple #[.slice none 0 0, .int .i64 0]))) := by
      refine .inl ⟨⟨by omega, ⟨rfl, .inl rfl, fun p h1 h2 => by simp at h2⟩, rfl, fun i x y hx => by simp at hx⟩, _, rfl, World.ownsRow_nil _ _ _ _⟩
    clear HE'
    go_enter Tryd.func33, Tryd.ntmps33
    go_wp2_with fail
    go_loopg [8] 0 (fun g i wr => wr = w ∧ i = .int .i64 0)
    case atStart => exact ⟨rfl, rfl⟩
    case round =>
      obtain ⟨hw, rfl⟩ := hrel
      replace hw := hw.symm
      subst hw
      go_wp2_with (go_at_call 28; refine KO.mono ?_; rintro e w2 ⟨rfl, hw2⟩; replace hw2 := hw2.symm; subst hw2)
      go_loopg [9] 0 (fun g i wr => wr = w ∧ i = .int .i64 1)
      case atStart => exact ⟨rfl, rfl⟩
      case round =>
        obtain ⟨hw, rfl⟩ := hrel
        replace hw := hw.symm
        subst hw
        go_wp2_with fail
        go_loopg [10, 11, 12] 0 (fun g v f i wr => wr = w ∧ v = .slice none 0 0 ∧ f = .int .i64 (-1) ∧ i = .int .i64 0)
        case atStart => exact ⟨rfl, rfl, rfl, rfl⟩
        case round =>
          obtain ⟨hw, rfl, rfl, rfl⟩ := hrel
          replace hw := hw.symm
          subst hw
          go_wp2_with fail
          exact bodyPost_ret (v := .tuple #[.slice none 0 0, .int .i64 0]) (by simp [results, Tryd.results33, go_sem]) rfl ⟨HQ.out, Below.refl _ _⟩
  · have hl : 0 < L.length := by cases L with | nil => exact absurd rfl hL | cons a l => simp
    have HQ := hid13 (HE'.out w (fun h => by have := h.2.2.1; rw [show sumW ([] : List (BitVec 32)) ([] : List (BitVec 32)).length = 0 from rfl] at this; omega))
    have hse : ((0 : Int) != (L.length : Int)) = true := by simp; omega
    generalize L.length = S at hse
    clear hL hl HE'
    go_enter Tryd.func33, Tryd.ntmps33
    go_wp2_with fail
    go_loopg [8] 0 (fun g i wr => wr = w ∧ i = .int .i64 0)
    case atStart => exact ⟨rfl, rfl⟩
    case round =>
      obtain ⟨hw, rfl⟩ := hrel
      replace hw := hw.symm
      subst hw
      go_wp2_with (go_at_call 28; refine KO.mono ?_; rintro e w2 ⟨rfl, hw2⟩; replace hw2 := hw2.symm; subst hw2)
      exact bodyPost_ret (v := .tuple #[.slice none 0 0, .int .i64 25]) (by simp [results, Tryd.results33, go_sem]) rfl ⟨HQ.out, Below.refl _ _⟩
set_option maxRecDepth 100000 in
set_option maxHeartbeats 16000000 in
theorem runfold13 (v lv : Value) (U : List (BitVec 32)) (n : Int) (L : List Int) (w : World) (hv : RwX cU w v U) (hL : RwX cI w lv L) (hl : U.length ≤ 3000) (hn0 : -9223372036854775808 ≤ n) (hn1 : n ≤ 9223372036854775807) (hll : L.length ≤ 17592186044416) :
    Calls Tryd.prog 33 #[v, .int .i64 n, lv] w fun e w' => UnEI w w' U n L e ∧ Below w.heap.size w w' := by
  obtain ⟨j0, ji, jz0, jz1, jz2⟩ := info13 Tryd.infoI13
  have HV := hid13 hv
  have HL : Hid (U.length ≤ 3000 ∧ L.length ≤ 17592186044416) := ⟨hl, hll⟩
  obtain ⟨ao, cc, hvf, -, -⟩ := id hv
  obtain ⟨lo, lc, hlf, -, hlc⟩ := id hL
  subst hvf hlf
  have hl0 : (U.length : Int) ≤ 3000 := by omega
  have hlb : (L.length : Int) ≤ 17592186044416 := by omega
  by_cases hneg : n < 0
  · have HQ : Hid (UnEI w w U n L (.returned (.tuple #[.slice none 0 0, .int .i64 1]))) := .inr ⟨fun h => by have := h.1; omega, by rw [if_pos hneg]⟩
    go_enter Tryd.func33, Tryd.ntmps33
    go_wp2_with fail
    exact bodyPost_ret (v := .tuple #[.slice none 0 0, .int .i64 1]) (by simp [results, Tryd.results33, go_sem]) rfl ⟨HQ.out, Below.refl _ _⟩
  obtain ⟨N, rfl⟩ : ∃ N : Nat, n = (N : Int) := ⟨n.toNat, by omega⟩
  have HE' : Hid (∀ W, ¬ UnQ U (N : Int) L → UnEI w W U (N : Int) L (.returned (.tuple #[.slice none 0 0, .int .i64 25]))) := fun W h => .inr ⟨h, by rw [if_neg hneg]⟩
  have HLC := hid13 hlc
  clear hv hL hl hn0 hn1 hll hlc
  by_cases c1 : 32 * U.length < N
  · have hci : 32 * (U.length : Int) < (N : Int) := by omega
    have HQ := hid13 (HE'.out w (fun h => by have h1 := h.2.1.1; rw [Int.toNat_natCast] at h1; omega))
    clear c1
    go_enter Tryd.func33, Tryd.ntmps33
    go_wp2_with fail
    exact bodyPost_ret (v := .tuple #[.slice none 0 0, .int .i64 25]) (by simp [results, Tryd.results33, go_sem]) rfl ⟨HQ.out, Below.refl _ _⟩
  have hci : ¬ 32 * (U.length : Int) < (N : Int) := by omega
  by_cases c2 : U.length = 0
  · obtain rfl : U = [] := List.length_eq_zero_iff.1 c2
    obtain rfl : N = 0 := by simp at c1; omega
    exact runfold13_none ao cc lo lc L w HV.out HE'.out
  have hup : 0 < (U.length : Int) := by omega
  by_cases c3 : N ≤ 32 * (U.length - 1)
  · have hle : (N : Int) ≤ 32 * ((U.length : Int) - 1) := by omega
    have HQ := hid13 (HE'.out w (fun h => by have h1 := h.2.1.1; rw [Int.toNat_natCast] at h1; omega))
    clear c1 c2 c3
    go_enter Tryd.func33, Tryd.ntmps33
    go_wp2_with fail
    exact bodyPost_ret (v := .tuple #[.slice none 0 0, .int .i64 25]) (by simp [results, Tryd.results33, go_sem]) rfl ⟨HQ.out, Below.refl _ _⟩
  have hle : ¬ (N : Int) ≤ 32 * ((U.length : Int) - 1) := by omega
  have HWL : Hid (U.length = (N + 31) / 32) := by show _ = _; omega
  clear hneg c2 c3
  go_enter Tryd.func33, Tryd.ntmps33
  go_wp2_with fail
  go_loopg [8] (32 * U.length - N) (fun g i wr => wr = w ∧ ∃ k : Nat, N ≤ k ∧ k ≤ 32 * U.length ∧ k + g = 32 * U.length ∧ i = .int .i64 (k : Int) ∧ Hid (∀ p, N ≤ p → p < k → plc U p = false))
  case atStart => exact ⟨rfl, N, by omega, by omega, by omega, rfl, fun p h1 h2 => by omega⟩
  case round =>
    obtain ⟨hw, k, hk1, hk2, hk, rfl, HP⟩ := hrel
    replace hw := hw.symm
    subst hw
    by_cases hlt : k < 32 * U.length
    · have hli : (k : Int) < 32 * (U.length : Int) := by omega
      have KI := is13 _ U k w HV.out hlt (by have := HL.out; omega)
      have mk : IntKind.i64.wrap ((k : Int) + 1) = (k : Int) + 1 := by have := HL.out; rw [IntKind.wrap_i64]; omega
      have HK : Hid (k + gk = 32 * U.length ∧ k < 32 * U.length ∧ N ≤ k) := ⟨hk, hlt, hk1⟩
      cases c : plc U k
      · rw [c] at KI
        have HP2 : Hid (∀ p, N ≤ p → p < k + 1 → plc U p = false) := by
          intro p h1 h2
          by_cases e : p = k
          · rw [e]; exact c
          · exact HP.out p h1 (by omega)
        clear c hk hk1 hk2 hlt HP
        go_wp2_with (go_at_call 43; refine KI.mono ?_; rintro e w1 ⟨rfl, hw1⟩; replace hw1 := hw1.symm; subst hw1)
        go_roundg (gk - 1)
        case measure => have := HK.out; omega
        case rel => exact ⟨rfl, k + 1, by have := HK.out; omega, by have := HK.out; omega, by have := HK.out; omega, rfl, HP2⟩
      · rw [c] at KI
        have HQ := hid13 (HE'.out w (fun h => by have := h.2.1.2.2 k (by rw [Int.toNat_natCast]; exact hk1) hlt; rw [c] at this; cases this))
        clear c hk hk1 hk2 hlt HP
        go_wp2_with (go_at_call 43; refine KI.mono ?_; rintro e w1 ⟨rfl, hw1⟩; replace hw1 := hw1.symm; subst hw1)
        exact bodyPost_ret (v := .tuple #[.slice none 0 0, .int .i64 25]) (by simp [results, Tryd.results33, go_sem]) rfl ⟨HQ.out, Below.refl _ _⟩
    · have hli : ¬ (k : Int) < 32 * (U.length : Int) := by omega
      have hke : k = 32 * U.length := by omega
      have HPA : Hid (∀ p, N ≤ p → p < 32 * U.length → plc U p = false) := by rw [← hke]; exact HP.out
      clear HP
      have e0 : 0 < (N : Int) := by omega
      have KI := is13 _ U 0 w HV.out (by have := HWL.out; omega) (by have := HL.out; omega)
      cases c : plc U 0
      · rw [c] at KI
        have HQ := hid13 (HE'.out w (fun h => by rcases h.2.1.2.1 with q | q; (rw [Int.toNat_natCast] at q; omega); (rw [c] at q; cases q)))
        clear c HPA
        go_wp2_with (go_at_call 43; refine KI.mono ?_; rintro e w1 ⟨rfl, hw1⟩; replace hw1 := hw1.symm; subst hw1)
        exact bodyPost_ret (v := .tuple #[.slice none 0 0, .int .i64 25]) (by simp [results, Tryd.results33, go_sem]) rfl ⟨HQ.out, Below.refl _ _⟩
      · rw [c] at KI
        have HMQ : Hid (MapQ U N) := ⟨HWL.out, .inr c, HPA.out⟩
        clear c HPA
        have KO := rones13 _ U w HV.out (by have := HL.out; omega)
        by_cases hs : sumW U U.length = L.length
        · have HSM := hid13 hs
          rw [hs] at KO
          have hse : ((L.length : Int) != (L.length : Int)) = false := by simp
          clear hs
          go_wp2_with (first | (go_at_call 43; refine KI.mono ?_; rintro e w1 ⟨rfl, hw1⟩; replace hw1 := hw1.symm; subst hw1) | (go_at_call 28; refine KO.mono ?_; rintro e w2 ⟨rfl, hw2⟩; replace hw2 := hw2.symm; subst hw2))
          have HB := hid13 (Below.refl w.heap.size w)
          go_loopg [9] (L.length + 1) (fun g i wr => ∃ k : Nat, 1 ≤ k ∧ k + g = L.length + 2 ∧ i = .int .i64 (k : Int) ∧ Hid (Below w.heap.size w wr) ∧ Hid (∀ j, j + 1 < k → L[j]? ≠ L[j + 1]? ∨ L[j + 1]? = none))
          case atStart => exact ⟨1, by omega, by omega, rfl, HB, fun j hj => by omega⟩
          case round =>
            clear HB
            obtain ⟨k, hk1, hk, rfl, HB, HN⟩ := hrel
            by_cases hlt : k < L.length
            · have hli : (k : Int) < (L.length : Int) := by omega
              obtain ⟨bo, off, rfl, hcell⟩ : ∃ bo off, lo = some ⟨bo, off, none⟩ ∧ ∀ j x, L[j]? = some x → w.cell? ⟨bo, off + j, none⟩ = some (cI x) := by
                rcases HLC.out with h | h
                · rw [h] at hlt; simp at hlt
                · exact h
              obtain ⟨j, hj⟩ : ∃ j, k = j + 1 := ⟨k - 1, by omega⟩
              obtain ⟨x, hx⟩ : ∃ x, L[k]? = some x := ⟨L[k], by simp [hlt]⟩
              obtain ⟨y, hy⟩ : ∃ y, L[j]? = some y := ⟨L[j], by simp [show j < L.length by omega]⟩
              have r1 : wr.cell? ⟨bo, off + k, none⟩ = some (.int .i64 x) := keepc HB.out (hcell k x hx)
              have r2 : wr.cell? ⟨bo, off + j, none⟩ = some (.int .i64 y) := keepc HB.out (hcell j y hy)
              have hj1 : (k : Int) - 1 = (j : Int) := by omega
              have hji : (j : Int) < (L.length : Int) := by omega
              have hjl : j < L.length := by omega
              have mk : IntKind.i64.wrap ((k : Int) + 1) = (k : Int) + 1 := by have := HL.out; rw [IntKind.wrap_i64]; omega
              have HK : Hid (k + gk = L.length + 2 ∧ k < L.length ∧ 1 ≤ k ∧ k = j + 1 ∧ L[k]? = some x ∧ L[j]? = some y) := ⟨hk, hlt, hk1, hj, hx, hy⟩
              clear hcell hx hy hk hj hk1
              by_cases hxy : x = y
              · have hbq : (x == y) = true := by simp [hxy]
                have HQ : ∀ W, UnEI w W U (N : Int) L (.returned (.tuple #[.slice none 0 0, .int .i64 25])) := fun W => HE'.out W (fun h => by
                  obtain ⟨-, -, -, e, a, b⟩ := HK.out
                  rw [e] at a
                  exact h.2.2.2 j y x b a hxy.symm)
                have HQ := hid13 HQ
                clear hxy HN
                go_wp2_with fail
                go_quiet (fail)
                have HB3 := hid13 (below_drewN HB.out nq)
                clear HB r1 r2
                go_wp2_with fail
                exact bodyPost_ret (v := .tuple #[.slice none 0 0, .int .i64 25]) (by simp [results, Tryd.results33, go_sem]) rfl ⟨HQ.out _, HB3.out⟩
              · have hbq : (x == y) = false := by simp [hxy]
                have HN2 : Hid (∀ j, j + 1 < k + 1 → L[j]? ≠ L[j + 1]? ∨ L[j + 1]? = none) := by
                  intro i hi
                  obtain ⟨-, -, -, e, a, b⟩ := HK.out
                  by_cases c : i + 1 < k
                  · exact HN.out i c
                  · obtain rfl : i = j := by omega
                    rw [← e, a, b]
                    exact .inl (fun q => hxy (Option.some.inj q).symm)
                clear hxy HN
                go_wp2_with fail
                go_quiet (fail)
                have HB3 := hid13 (below_drewN HB.out nq)
                clear HB r1 r2
                go_wp2
                go_roundg (gk - 1)
                case measure => have := HK.out; omega
                case rel => exact ⟨k + 1, by omega, by have := HK.out; omega, rfl, HB3, HN2⟩
            · have hli : ¬ (k : Int) < (L.length : Int) := by omega
              have HQ : Hid (UnQ U (N : Int) L) := by
                refine ⟨by omega, by rw [Int.toNat_natCast]; exact HMQ.out, HSM.out, ?_⟩
                intro i x y hx hy
                have hlt2 := (List.getElem?_eq_some_iff.1 hy).1
                rcases HN.out i (by omega) with h | h
                · rw [hx, hy] at h
                  exact fun q => h (congrArg some q)
                · rw [h] at hy; cases hy
              have hN : N ≤ 96000 := by have h1 := HMQ.out.1; have := HL.out; omega
              have HNl : Hid (N ≤ 32 * U.length) := by have h1 := HMQ.out.1; show _ ≤ _; omega
              clear HN HMQ HSM HE' hk1 hk hlt
              go_wp2_with fail
              go_loopg [10, 11, 12] N (fun g vf fr i wr => ∃ (k : Nat) (c : Nat) (R : List Int), k + g = N ∧ i = .int .i64 (k : Int) ∧ fr = .int .i64 ((c : Int) - 1) ∧ c ≤ k ∧ Hid (c = cnt U k) ∧ Hid (wr.ownsRow w.heap.size 3 1 vf R.length (R.map cI) ∧ Below w.heap.size w wr) ∧ Hid (R = unR U L k))
              case atStart => exact ⟨0, 0, [], by omega, rfl, rfl, Nat.le_refl _, rfl, ⟨World.ownsRow_nil _ _ _ _, HB.out⟩, rfl⟩
              case round =>
                clear HB
                obtain ⟨k, c, R, hk, rfl, rfl, hck, HC, HS, HU⟩ := hrel
                by_cases hlt : k < N
                · have hli : (k : Int) < (N : Int) := by omega
                  have KI := is13 _ U k wr (HV.out.below HS.out.2) (by have := HNl.out; omega) (by have := HL.out; omega)
                  obtain ⟨a1, a2⟩ := un_at HQ.out k (by rw [Int.toNat_natCast]; exact hlt)
                  have a3 : cnt U (k + 1) = c + (plc U k).toNat := by simp only [cnt]; rw [HC.out]
                  have hLne : 0 < L.length := by omega
                  obtain ⟨bo, off, rfl, hcell⟩ : ∃ bo off, lo = some ⟨bo, off, none⟩ ∧ ∀ j x, L[j]? = some x → w.cell? ⟨bo, off + j, none⟩ = some (cI x) := by
                    rcases HLC.out with h | h
                    · rw [h] at hLne; simp at hLne
                    · exact h
                  obtain ⟨j, hj⟩ : ∃ j, cnt U (k + 1) = j + 1 := ⟨cnt U (k + 1) - 1, by omega⟩
                  obtain ⟨x, hx⟩ : ∃ x, L[j]? = some x := ⟨L[j], by simp [show j < L.length by omega]⟩
                  have HU2 : Hid (R ++ [x] = unR U L (k + 1)) := by
                    show _ = _
                    rw [unR_succ, hj, Nat.add_sub_cancel, hx, HU.out]; rfl
                  have hRl : R.length = k := by rw [HU.out]; exact unR_len HQ.out k (by rw [Int.toNat_natCast]; omega)
                  have HX : Hid (w.cell? ⟨bo, off + j, none⟩ = some (.int .i64 x)) := hcell j x hx
                  have hji : (j : Int) < (L.length : Int) := by omega
                  have HJJ : Hid ((j : Int) = ((j + 1 : Nat) : Int) - 1) := by show _ = _; omega
                  have mk : IntKind.i64.wrap ((k : Int) + 1) = (k : Int) + 1 := by rw [IntKind.wrap_i64]; omega
                  have HK : Hid (k + gk = N ∧ k < N ∧ cnt U (k + 1) = j + 1 ∧ j ≤ k) := ⟨hk, hlt, hj, by have := cnt_le U (k + 1); omega⟩
                  have HK2 : Hid (gk - 1 < gk ∧ k + 1 + (gk - 1) = N ∧ j + 1 ≤ k + 1) := by have := HK.out; exact ⟨by omega, by omega, by omega⟩
                  have hkb : (k : Int) ≤ 96000 := by omega
                  have h63 : R.length + 1 ≤ maxLen := by unfold maxLen; omega
                  have h47 : (R.length + 1) * 8 ≤ 140737488355328 := by omega
                  have q9 := bl1 wr (.cells #[.int .i64 x] 3)
                  have HO9 := hid13 (own_b13 q9 HS.out.1)
                  have HS9 : Hid (w.heap.size ≤ (wr.alloc (.cells #[.int .i64 x] 3)).heap.size) := hid13 (Nat.le_trans HS.out.2.size q9.size)
                  have HB9 := hid13 (keepb q9 HS.out.2)
                  clear q9 hcell hx hk hRl
                  cases hp : plc U k
                  · rw [hp] at KI a3
                    simp only [Bool.toNat_false, Nat.add_zero] at a3
                    have hcj : (c : Int) - 1 = (j : Int) := by omega
                    rw [hcj]
                    clear hp a1 a2 a3 hj hck HC
                    have HR1 := keepc HS.out.2 HX.out
                    have H63 := hid13 h63
                    have H47 := hid13 h47
                    go_wp2_with fail
                    refine KI.mono ?_
                    rintro e w1 ⟨rfl, hw1⟩
                    replace hw1 := hw1.symm
                    subst hw1
                    clear KI h63 h47 hN hLne hup hle hci c1 hlt hlb hl0
                    go_wp2_with (first | (
                      at_builtin
                      refine wpList_append_lies _ rfl _ _ 55 rfl w.heap.size 3 j0 (.int .i64 0) 1 8 Tryd.underlying55 ji jz0 jz1 jz2 rfl (by decide) _ _ _ rfl HO9.out ⟨wr.heap.size, 0, none⟩ 1 1 [.int .i64 x] rfl rfl (news13 (by simp [go_sem])) (by intro u hu; simp at hu; subst hu; rfl) (by decide) H63.out H47.out HS9.out _ rfl ?_
                      intro g4 cap4 w4 hown4 hgrow hat hlt4
                      have HZ : Hid (w4.ownsRow w.heap.size 3 1 (.slice (some ⟨g4, 0, none⟩) (R.length + 1) cap4) (R ++ [x]).length ((R ++ [x]).map cI) ∧ Below w.heap.size w w4) := by
                        refine ⟨by rw [List.length_append, List.map_append]; exact hown4, HB9.out.grown hgrow HB9.out.size (fun z e => (HO9.out.lt z e).1)⟩
                      clear hgrow hat hown4 hlt4 H63 H47 HO9 HS9 HB9))
                    go_wp2
                    go_roundg (gk - 1)
                    case measure => exact HK2.out.1
                    case rel => exact ⟨k + 1, j + 1, _, HK2.out.2.1, rfl, congrArg (Value.int .i64) HJJ.out, HK2.out.2.2, HK.out.2.2.1.symm, HZ, HU2⟩
                  · rw [hp] at KI a3
                    simp only [Bool.toNat_true] at a3
                    have hcj : (c : Int) = (j : Int) := by omega
                    rw [hcj]
                    have mf0 : IntKind.i64.wrap (j : Int) = (j : Int) := by rw [IntKind.wrap_i64]; omega
                    have mf : wrap64 (j : Int) = (j : Int) := by rw [IntKind.wrap_i64] at mf0; unfold wrap64; omega
                    clear mf0
                    clear hp a1 a2 a3 hj hck HC
                    have HR1 := keepc HS.out.2 HX.out
                    have H63 := hid13 h63
                    have H47 := hid13 h47
                    go_wp2_with fail
                    refine KI.mono ?_
                    rintro e w1 ⟨rfl, hw1⟩
                    replace hw1 := hw1.symm
                    subst hw1
                    clear KI h63 h47 hN hLne hup hle hci c1 hlt hlb hl0
                    go_wp2_with (first | (
                      at_builtin
                      refine wpList_append_lies _ rfl _ _ 55 rfl w.heap.size 3 j0 (.int .i64 0) 1 8 Tryd.underlying55 ji jz0 jz1 jz2 rfl (by decide) _ _ _ rfl HO9.out ⟨wr.heap.size, 0, none⟩ 1 1 [.int .i64 x] rfl rfl (news13 (by simp [go_sem])) (by intro u hu; simp at hu; subst hu; rfl) (by decide) H63.out H47.out HS9.out _ rfl ?_
                      intro g4 cap4 w4 hown4 hgrow hat hlt4
                      have HZ : Hid (w4.ownsRow w.heap.size 3 1 (.slice (some ⟨g4, 0, none⟩) (R.length + 1) cap4) (R ++ [x]).length ((R ++ [x]).map cI) ∧ Below w.heap.size w w4) := by
                        refine ⟨by rw [List.length_append, List.map_append]; exact hown4, HB9.out.grown hgrow HB9.out.size (fun z e => (HO9.out.lt z e).1)⟩
                      clear hgrow hat hown4 hlt4 H63 H47 HO9 HS9 HB9))
                    go_wp2
                    go_roundg (gk - 1)
                    case measure => exact HK2.out.1
                    case rel => exact ⟨k + 1, j + 1, _, HK2.out.2.1, rfl, congrArg (Value.int .i64) HJJ.out, HK2.out.2.2, HK.out.2.2.1.symm, HZ, HU2⟩
                · have hli : ¬ (k : Int) < (N : Int) := by omega
                  obtain rfl : k = N := by omega
                  have HF : Hid (UnEI w wr U (k : Int) L (.returned (.tuple #[u10, .int .i64 0]))) := by
                    refine .inl ⟨HQ.out, _, rfl, ?_⟩
                    have h1 := HS.out.1
                    rw [HU.out, unR_len HQ.out k (by rw [Int.toNat_natCast]; omega)] at h1
                    rw [Int.toNat_natCast]
                    exact h1
                  go_wp2_with fail
                  exact bodyPost_ret (v := .tuple #[u10, .int .i64 0]) (by simp [results, Tryd.results33, go_sem]) rfl ⟨HF.out, HS.out.2⟩
        · have HQ := hid13 (HE'.out w (fun h => hs h.2.2.1))
          have hse : (((sumW U U.length : Nat) : Int) != (L.length : Int)) = true := by simp; omega
          generalize ((sumW U U.length : Nat) : Int) = S at hse KO
          clear hs
          go_wp2_with (first | (go_at_call 43; refine KI.mono ?_; rintro e w1 ⟨rfl, hw1⟩; replace hw1 := hw1.symm; subst hw1) | (go_at_call 28; refine KO.mono ?_; rintro e w2 ⟨rfl, hw2⟩; replace hw2 := hw2.symm; subst hw2))
          exact bodyPost_ret (v := .tuple #[.slice none 0 0, .int .i64 25]) (by simp [results, Tryd.results33, go_sem]) rfl ⟨HQ.out, Below.refl _ _⟩
end Go.Proofs.YthbdmdafldombaaDoor
namespace Go.Proofs.YthbdmdafldombaaDoor
open Go.RowKit
set_option linter.unusedSimpArgs false
set_option linter.unusedVariables false

set_option maxRecDepth 100000 in
set_option maxHeartbeats 8000000 in
theorem sameInts_any (v1 v2 : Value) (l : List Int) (w : World) (h1 : RwX cI w v1 l) (h2 : RwX cI w v2 l) (hl : l.length ≤ 9223372036854775806) :
    Calls Tryd.prog 31 #[v1, v2] w fun e w' => e = .returned (.bool true) ∧ Below w.heap.size w w' := by
  obtain ⟨ao, cc, rfl, -, hv1⟩ := h1
  obtain ⟨ao2, cc2, rfl, -, hv2⟩ := h2
  have HV1 := hid13 hv1
  have HV2 := hid13 hv2
  have HL := hid13 hl
  have HB := hid13 (Below.refl w.heap.size w)
  clear hv1 hv2 hl
  go_enter Tryd.func31, Tryd.ntmps31
  go_wp2_with fail
  go_loopg [5] l.length (fun g i wr => ∃ k : Nat, k + g = l.length ∧ i = .int .i64 (k : Int) ∧ Hid (Below w.heap.size w wr))
  case atStart => exact ⟨0, by omega, rfl, HB⟩
  case round =>
    clear HB
    obtain ⟨k, hk, rfl, HB⟩ := hrel
    by_cases hlt : k < l.length
    · have hli : (k : Int) < (l.length : Int) := by omega
      obtain ⟨bo, off, rfl, hc1⟩ : ∃ bo off, ao = some ⟨bo, off, none⟩ ∧ ∀ j x, l[j]? = some x → w.cell? ⟨bo, off + j, none⟩ = some (cI x) := by
        rcases HV1.out with h | h
        · rw [h] at hlt; simp at hlt
        · exact h
      obtain ⟨bo2, off2, rfl, hc2⟩ : ∃ bo off, ao2 = some ⟨bo, off, none⟩ ∧ ∀ j x, l[j]? = some x → w.cell? ⟨bo, off + j, none⟩ = some (cI x) := by
        rcases HV2.out with h | h
        · rw [h] at hlt; simp at hlt
        · exact h
      obtain ⟨x, hx⟩ : ∃ x, l[k]? = some x := ⟨l[k], by simp [hlt]⟩
      have r1 : wr.cell? ⟨bo, off + k, none⟩ = some (.int .i64 x) := keepc HB.out (hc1 k x hx)
      have r2 : wr.cell? ⟨bo2, off2 + k, none⟩ = some (.int .i64 x) := keepc HB.out (hc2 k x hx)
      have mk : IntKind.i64.wrap ((k : Int) + 1) = (k : Int) + 1 := by have := HL.out; rw [IntKind.wrap_i64]; omega
      have HK : Hid (k + gk = l.length ∧ k < l.length) := ⟨hk, hlt⟩
      have HB2 := hid13 HB.out.drew
      clear hc1 hc2 hx hk
      go_wp2_with fail
      go_region
      go_wp2
      go_roundg (gk - 1)
      case measure => have := HK.out; omega
      case rel => exact ⟨k + 1, by have := HK.out; omega, rfl, HB2⟩
    · have hli : ¬ (k : Int) < (l.length : Int) := by omega
      go_wp2_with fail
      go_ret
      exact ⟨rfl, HB.out⟩
end Go.Proofs.YthbdmdafldombaaDoor
namespace Go.Proofs.YthbdmdafldombaaDoor
open Go.RowKit
set_option linter.unusedSimpArgs false
set_option linter.unusedVariables false

def Hf (w : World) : Prop := ∀ j, j < 16 → w.cell? ⟨0, j, none⟩ = some (.int .u32 (uI (cT j)))
theorem Hf.below {w w' : World} (h : Hf w) (hb : Below w.heap.size w w') : Hf w' := fun j hj => keepc hb (h j hj)
theorem nib32 (x : BitVec 32) : bits .and .u32 (uI x) 15 = ((x.toNat % 16 : Nat) : Int) := by
  have e : (15 : Int) = uI 15#32 := lit32 15 (by decide)
  have h : bits .and .u32 (uI x) (uI 15#32) = ((x.toNat % 16 : Nat) : Int) := by
    rw [and32, and15, uI_of _ (by omega)]
  rw [← e] at h
  exact h
theorem sh4 (x : BitVec 32) : uI x / (16 : Int) = uI (x >>> 4) := by have := shr32 x 4; simpa using this
theorem byX (c : BitVec 32) (b : Nat) (h : b < 256) : bits .xor .u32 (uI c) (b : Int) = uI (c ^^^ BitVec.ofNat 32 b) := by
  rw [← xor32, uI_of b (by omega)]
theorem stp_4 (c : BitVec 32) (b : Nat) : hbN 4 (hbN 4 (c ^^^ BitVec.ofNat 32 b)) = stp c b := by
  unfold stp; rw [← hbN_add]
def intOf13 : Value → Int | .int _ q => q | _ => 0
theorem crF_at {l : List Nat} {k : Nat} (hk : k < l.length) (C : BitVec 32) : crF C (l.drop k) = crF (stp C (l[k])) (l.drop (k + 1)) := by
  rw [List.drop_eq_getElem_cons hk, crF_cons]
theorem nibF {w : World} (hT : Hf w) (x : BitVec 32) : ∃ d : Nat, ∃ t : Int, d < 16 ∧ bits .and .u32 (uI x) 15 = (d : Int) ∧ w.cell? ⟨0, d, none⟩ = some (.int .u32 t) ∧ bits .xor .u32 (uI x / (16 : Int)) t = uI (hbN 4 x) := by
  refine ⟨x.toNat % 16, uI (cT (x.toNat % 16)), by omega, nib32 x, hT _ (by omega), ?_⟩
  rw [sh4, xor32, hb_four]
def AlI (l : List Nat) (ao : Option Addr) (cc : Nat) (c : BitVec 32) (a' : Act) : Prop := ∃ (k : Nat) (C : BitVec 32) (u6 u7 u8 u9 u10 u11 u12 u13 u14 u15 u16 u17 u18 u19 u20 u21 u22 u23 u24 u25 u26 u27 u28 u29 u30 u31 u32 u33 : Value), a' = { tmps := #[.int .u32 (uI C), .slice ao l.length cc, undef, undef, .int .u32 0, .int .i64 (k : Int), u6, u7, u8, u9, u10, u11, u12, u13, u14, u15, u16, u17, u18, u19, u20, u21, u22, u23, u24, u25, u26, u27, u28, u29, u30, u31, u32, u33], defers := [] } ∧ k ≤ l.length ∧ Hid (crF C (l.drop k) = crF c l)
theorem AlI.mk {l : List Nat} {ao : Option Addr} {cc : Nat} {c : BitVec 32} (k : Nat) (C : BitVec 32) (u6 u7 u8 u9 u10 u11 u12 u13 u14 u15 u16 u17 u18 u19 u20 u21 u22 u23 u24 u25 u26 u27 u28 u29 u30 u31 u32 u33 : Value) (hk : k ≤ l.length) (h : Hid (crF C (l.drop k) = crF c l)) : AlI l ao cc c { tmps := #[.int .u32 (uI C), .slice ao l.length cc, undef, undef, .int .u32 0, .int .i64 (k : Int), u6, u7, u8, u9, u10, u11, u12, u13, u14, u15, u16, u17, u18, u19, u20, u21, u22, u23, u24, u25, u26, u27, u28, u29, u30, u31, u32, u33], defers := [] } := ⟨k, C, u6, u7, u8, u9, u10, u11, u12, u13, u14, u15, u16, u17, u18, u19, u20, u21, u22, u23, u24, u25, u26, u27, u28, u29, u30, u31, u32, u33, rfl, hk, h⟩
def AlM (l : List Nat) (a' : Act) : Nat := l.length - (intOf13 (a'.tmps.getD 5 undef)).toNat
set_option maxRecDepth 1000000 in
set_option maxHeartbeats 8000000 in
theorem along_any (c : BitVec 32) (v : Value) (l : List Nat) (w : World) (hv : RwX cB w v l) (hl : l.length ≤ 9223372036854775806) (hb : ∀ b ∈ l, b < 256) (hT : Hf w) :
    Calls Tryd.prog 36 #[.int .u32 (uI c), v] w fun e w' => e = .returned (.int .u32 (uI (crF c l))) ∧ w' = w := by
  obtain ⟨ao, cc, rfl, hc, hv⟩ := hv
  have HV := hid13 hv
  have HT := hid13 hT
  have HB := hid13 hb
  have HL := hid13 hl
  clear hv hT hb hc hl
  go_enter Tryd.func36, Tryd.ntmps36
  go_wp2
  refine wp_scope_jumps 0 (fun a' w' => w' = w ∧ AlI l ao cc c a') (fun a' _ => AlM l a') rfl ?_ ?_
  · have HC : Hid (crF c (l.drop 0) = crF c l) := by show crF c (l.drop 0) = crF c l; simp
    by_cases hlt : 0 < l.length
    · have hne : ¬ ((0 : Int) = (l.length : Int)) := by omega
      obtain ⟨b, hb0⟩ : ∃ b, b = l[0]'hlt := ⟨_, rfl⟩
      have hb1 : b < 256 := HB.out b (by rw [hb0]; exact List.getElem_mem hlt)
      obtain ⟨bo, off, rfl, hcell⟩ : ∃ bo off, ao = some ⟨bo, off, none⟩ ∧ ∀ j x, l[j]? = some x → w.cell? ⟨bo, off + j, none⟩ = some (cB x) := by
        rcases HV.out with h | h
        · rw [h] at hlt; simp at hlt
        · exact h
      have hrd : w.cell? ⟨bo, off + 0, none⟩ = some (.int .u8 (b : Int)) := by
        have := hcell 0 b (by rw [hb0]; simp [hlt])
        exact this
      clear hcell HV
      have hx := byX c b hb1
      have HE : Hid (crF (hbN 4 (hbN 4 (c ^^^ BitVec.ofNat 32 b))) (l.drop (0 + 1)) = crF c l) := by
        show _ = _
        rw [stp_4, hb0, ← crF_at hlt]; exact HC.out
      obtain ⟨X, hX⟩ : ∃ X, X = c ^^^ BitVec.ofNat 32 b := ⟨_, rfl⟩
      rw [← hX] at hx HE
      obtain ⟨d, t, hd, f1, f2, f3⟩ := nibF HT.out X
      obtain ⟨Y, hY⟩ : ∃ Y, Y = hbN 4 X := ⟨_, rfl⟩
      rw [← hY] at f3 HE
      obtain ⟨d2, t2, hd2, g1, g2, g3⟩ := nibF HT.out Y
      have hd' : ((d : Nat) : Int) < 16 := by omega
      have hd2' : ((d2 : Nat) : Int) < 16 := by omega
      have hbi : ((b : Nat) : Int) < 256 := by omega
      have mk : IntKind.i64.wrap ((0 : Int) + 1) = (0 : Int) + 1 := by have := HL.out; rw [IntKind.wrap_i64]; omega
      have HLT := hid13 hlt
      have HB0 := hid13 hb0
      clear hX hY HC hb0
      rw [Nat.add_zero] at hrd
      clear mk
      go_wp2
      go_step3
      go_wp2
      go_step3
      exact ⟨rfl, rfl, AlI.mk 1 (hbN 4 Y) _ _ _ _ _ _ _ _ _ _ _ _ _ _ _ _ _ _ _ _ _ _ _ _ _ _ _ _ HLT.out HE⟩
    · have h0 : l = [] := List.eq_nil_of_length_eq_zero (by omega)
      subst h0
      go_wp2
      go_step3
      go_wp2
      simp only [Exit.jump]
      go_ret
      exact ⟨rfl, rfl⟩
  · rintro a' w' ⟨rfl, k, C, u6, u7, u8, u9, u10, u11, u12, u13, u14, u15, u16, u17, u18, u19, u20, u21, u22, u23, u24, u25, u26, u27, u28, u29, u30, u31, u32, u33, rfl, hk, HC⟩
    by_cases hlt : k < l.length
    · have hne : ¬ ((k : Int) = (l.length : Int)) := by omega
      obtain ⟨b, hb0⟩ : ∃ b, b = l[k]'hlt := ⟨_, rfl⟩
      have hb1 : b < 256 := HB.out b (by rw [hb0]; exact List.getElem_mem hlt)
      obtain ⟨bo, off, rfl, hcell⟩ : ∃ bo off, ao = some ⟨bo, off, none⟩ ∧ ∀ j x, l[j]? = some x → w'.cell? ⟨bo, off + j, none⟩ = some (cB x) := by
        rcases HV.out with h | h
        · rw [h] at hlt; simp at hlt
        · exact h
      have hrd : w'.cell? ⟨bo, off + k, none⟩ = some (.int .u8 (b : Int)) := by
        have := hcell k b (by rw [hb0]; simp [hlt])
        exact this
      clear hcell HV
      have hx := byX C b hb1
      have HE : Hid (crF (hbN 4 (hbN 4 (C ^^^ BitVec.ofNat 32 b))) (l.drop (k + 1)) = crF c l) := by
        show _ = _
        rw [stp_4, hb0, ← crF_at hlt]; exact HC.out
      obtain ⟨X, hX⟩ : ∃ X, X = C ^^^ BitVec.ofNat 32 b := ⟨_, rfl⟩
      rw [← hX] at hx HE
      obtain ⟨d, t, hd, f1, f2, f3⟩ := nibF HT.out X
      obtain ⟨Y, hY⟩ : ∃ Y, Y = hbN 4 X := ⟨_, rfl⟩
      rw [← hY] at f3 HE
      obtain ⟨d2, t2, hd2, g1, g2, g3⟩ := nibF HT.out Y
      have hd' : ((d : Nat) : Int) < 16 := by omega
      have hd2' : ((d2 : Nat) : Int) < 16 := by omega
      have hbi : ((b : Nat) : Int) < 256 := by omega
      have mk : IntKind.i64.wrap ((k : Int) + 1) = (k : Int) + 1 := by have := HL.out; rw [IntKind.wrap_i64]; omega
      have HLT := hid13 hlt
      have HB0 := hid13 hb0
      clear hX hY HC hb0
      go_wp2
      go_step3
      refine ⟨rfl, ⟨rfl, AlI.mk (k + 1) (hbN 4 Y) _ _ _ _ _ _ _ _ _ _ _ _ _ _ _ _ _ _ _ _ _ _ _ _ _ _ _ _ HLT.out HE⟩, ?_⟩
      show l.length - ((k : Int) + 1).toNat < l.length - (k : Int).toNat
      have := HLT.out
      omega
    · have hq : (k : Int) = (l.length : Int) := by omega
      have HE : Hid (C = crF c l) := by
        have := HC.out
        rw [List.drop_eq_nil_of_le (by omega), crF_nil] at this
        exact this
      go_wp2
      simp only [Exit.jump]
      go_ret
      exact ⟨by rw [← HE.out]; rfl, rfl⟩

theorem flat_at {P : List (Value × List Nat)} {k : Nat} (hk : k < P.length) (C : BitVec 32) : crF C ((P.drop k).map (·.2)).flatten = crF (crF C (P[k].2)) ((P.drop (k + 1)).map (·.2)).flatten := by
  rw [List.drop_eq_getElem_cons hk, List.map_cons, List.flatten_cons, crF_app]
theorem notU (x : BitVec 32) : bits .xor .u32 IntKind.u32.max (uI x) = uI (~~~ x) := by
  have e : IntKind.u32.max = uI (BitVec.allOnes 32) := by rw [uI_eq]; decide
  rw [e, xor32, not_xor]
set_option maxRecDepth 100000 in
set_option maxHeartbeats 8000000 in
theorem sum_any (v : Value) (P : List (Value × List Nat)) (w : World) (hv : RwX (fun p : Value × List Nat => p.1) w v P) (hP : ∀ p ∈ P, RwX cB w p.1 p.2 ∧ p.2.length ≤ 9223372036854775806 ∧ ∀ b ∈ p.2, b < 256) (hl : P.length ≤ 9223372036854775806) (hT : Hf w) :
    Calls Tryd.prog 18 #[v] w fun e w' => e = .returned (.int .u32 (uI (crS (P.map (·.2)).flatten))) ∧ w' = w := by
  obtain ⟨ao, cc, rfl, hc, hv⟩ := hv
  have HV := hid13 hv
  have HT := hid13 hT
  have HP := hid13 hP
  have HL := hid13 hl
  have hs : ¬ IntKind.u32.signed = true := by decide
  clear hv hT hP hc hl
  go_enter Tryd.func18, Tryd.ntmps18
  go_wp2_with fail
  go_loopg [3, 5, 8] P.length (fun g a b i wr => wr = w ∧ ∃ (k : Nat) (C : BitVec 32), k + g = P.length ∧ a = .int .u32 (uI C) ∧ i = .int .i64 (k : Int) ∧ Hid (crF C ((P.drop k).map (·.2)).flatten = crF (BitVec.allOnes 32) (P.map (·.2)).flatten))
  case atStart =>
    refine ⟨rfl, 0, BitVec.allOnes 32, by omega, ?_, rfl, rfl⟩
    exact congrArg (Value.int .u32) (by rw [uI_eq]; decide)
  case round =>
    obtain ⟨rfl, k, C, hk, rfl, rfl, HC⟩ := hrel
    by_cases hlt : k < P.length
    · have hli : (k : Int) < (P.length : Int) := by omega
      obtain ⟨bo, off, rfl, hcell⟩ : ∃ bo off, ao = some ⟨bo, off, none⟩ ∧ ∀ j x, P[j]? = some x → wr.cell? ⟨bo, off + j, none⟩ = some x.1 := by
        rcases HV.out with h | h
        · rw [h] at hlt; simp at hlt
        · exact h
      obtain ⟨q, hq⟩ : ∃ q, q = P[k] := ⟨_, rfl⟩
      have hrd : wr.cell? ⟨bo, off + k, none⟩ = some q.1 := hcell k q (by rw [hq]; simp [hlt])
      have hq2 := hid13 (HP.out q (by rw [hq]; exact List.getElem_mem hlt))
      have HE : Hid (crF (crF C q.2) ((P.drop (k + 1)).map (·.2)).flatten = crF (BitVec.allOnes 32) (P.map (·.2)).flatten) := by
        show _ = _
        rw [hq, ← flat_at hlt]; exact HC.out
      have mk : IntKind.i64.wrap ((k : Int) + 1) = (k : Int) + 1 := by have := HL.out; rw [IntKind.wrap_i64]; omega
      have HK := hid13 hk
      have HLT := hid13 hlt
      clear hq hcell HC hk
      obtain ⟨qv, ql⟩ := q
      go_wp2_with (go_at_call 36; refine (along_any C qv ql _ hq2.out.1 hq2.out.2.1 hq2.out.2.2 HT.out).mono ?_; rintro e w1 ⟨rfl, rfl⟩)
      go_roundg (gk - 1)
      case measure => have := HK.out; have := HLT.out; omega
      case rel => exact ⟨rfl, k + 1, _, by have := HK.out; have := HLT.out; omega, rfl, rfl, HE⟩
    · have hli : ¬ (k : Int) < (P.length : Int) := by omega
      have HE : Hid (~~~ C = crS (P.map (·.2)).flatten) := by
        have := HC.out
        rw [List.drop_eq_nil_of_le (by omega), List.map_nil, List.flatten_nil, crF_nil] at this
        show ~~~ C = crS _
        unfold crS
        rw [this]
      have hn := notU C
      go_wp2_with fail
      go_ret
      exact ⟨congrArg Ending.returned (congrArg (Value.int .u32) (by first | exact congrArg uI HE.out | (rw [← HE.out]; exact hn))), rfl⟩
end Go.Proofs.YthbdmdafldombaaDoor
namespace Go.Proofs.YthbdmdafldombaaDoor
open Go.RowKit
set_option linter.unusedSimpArgs false
set_option linter.unusedVariables false

theorem known_sum : crS [49, 50, 51, 52, 53, 54, 55, 56, 57] = 3808858755#32 := by decide +kernel
theorem known_U : fdU [(5 : Int), 5, 7, 5] 4 = [2952790016#32] := by decide +kernel
theorem known_R : fdR [(5 : Int), 5, 7, 5] 4 = [5, 7, 5] := by decide +kernel
theorem lit_rwx {α : Type} {f : α → Value} (w : World) (cs : Array Value) (T : TypeId) (fr : Nat × Nat) (l : List α) (h : cs.toList = l.map f) : RwX f (w.alloc (.cells cs T fr)) (.slice (some ⟨w.heap.size, 0, none⟩) l.length l.length) l := by
  refine ⟨_, _, rfl, Nat.le_refl _, .inr ⟨w.heap.size, 0, rfl, fun j x hj => ?_⟩⟩
  have e : (w.alloc (.cells cs T fr)).heap[w.heap.size]? = some (.cells cs T fr) := by
    show (w.heap.push _)[w.heap.size]? = _
    simp
  have hc : cs[j]? = some (f x) := by
    rw [← Array.getElem?_toList, h, List.getElem?_map, hj]; rfl
  rw [Nat.zero_add]
  rw [cell_of_row _ _ _ _ _ _ e]; exact hc
set_option maxRecDepth 100000 in
set_option maxHeartbeats 16000000 in
theorem known13 (w : World) (hT : Hf w) :
    Calls Tryd.prog 17 #[] w fun e w' => e = .returned (.bool true) ∧ Below w.heap.size w w' := by
  have HT := hid13 hT
  clear hT
  have q1 := bl1 w (.cells #[.int .i64 5, .int .i64 5, .int .i64 7, .int .i64 5] 3)
  have HB1 := hid13 q1
  have HV1 := hid13 (lit_rwx (f := cI) w #[.int .i64 5, .int .i64 5, .int .i64 7, .int .i64 5] 3 (0, 0) [5, 5, 7, 5] rfl)
  clear q1
  go_enter Tryd.func17, Tryd.ntmps17
  go_wp2_with fail
  refine (foldI_any _ [5, 5, 7, 5] _ HV1.out (by decide)).mono ?_
  rintro e w1 ⟨vf, rfl, hF⟩
  have hB : Below w.heap.size w w1 := keepb hF.b HB1.out
  rw [show ([5, 5, 7, 5] : List Int).length = 4 from rfl, known_U, known_R] at hF
  have hs1 : (w.alloc (.cells #[.int .i64 5, .int .i64 5, .int .i64 7, .int .i64 5] 3)).heap.size = w.heap.size + 1 := by simp
  rw [hs1, show (([5, 5, 7, 5] : List Int).length + 31) / 32 = 1 from rfl]
  have hm0 : w1.cell? ⟨w.heap.size + 1, 0, none⟩ = some (.int .u32 2952790016) := by
    have := (hF.cell 0 (by decide)).1
    rw [show ([2952790016#32] : List (BitVec 32)).getD (0 / 32) 0#32 = 2952790016#32 from rfl, uI_of 2952790016 (by decide)] at this
    rw [hs1] at this
    exact this
  obtain ⟨gf, cf, rfl, hr1⟩ : ∃ gf cf, vf = .slice (some ⟨gf, 0, none⟩) 3 cf ∧ w1.cell? ⟨gf, 1, none⟩ = some (.int .i64 7) := by
    have hr := hF.r
    rcases hr.2 with ⟨-, h⟩ | ⟨g, cap, cur, rfl, -⟩
    · cases h
    · exact ⟨g, cap, rfl, by rw [hr.cellAt 1 (by decide)]; rfl⟩
  have HT1 := hid13 (HT.out.below hB)
  have HB := hid13 hB
  clear hF hB HB1 HV1 hs1 HT
  have q2 := bl1 w1 (.cells #[.int .u8 49, .int .u8 50, .int .u8 51, .int .u8 52] 5 (4, 5))
  have r2 := lit_rwx (f := cB) w1 #[.int .u8 49, .int .u8 50, .int .u8 51, .int .u8 52] 5 (4, 5) [49, 50, 51, 52] rfl
  obtain ⟨w2, hw2⟩ : ∃ w2, w2 = w1.alloc (.cells #[.int .u8 49, .int .u8 50, .int .u8 51, .int .u8 52] 5 (4, 5)) := ⟨_, rfl⟩
  have e2 : w2.heap.size = w1.heap.size + 1 := by rw [hw2]; simp
  rw [← hw2] at q2 r2
  have q3 := bl1 w2 (.cells #[.int .u8 53, .int .u8 54, .int .u8 55, .int .u8 56, .int .u8 57] 5 (5, 6))
  have r3 := lit_rwx (f := cB) w2 #[.int .u8 53, .int .u8 54, .int .u8 55, .int .u8 56, .int .u8 57] 5 (5, 6) [53, 54, 55, 56, 57] rfl
  obtain ⟨w3, hw3⟩ : ∃ w3, w3 = w2.alloc (.cells #[.int .u8 53, .int .u8 54, .int .u8 55, .int .u8 56, .int .u8 57] 5 (5, 6)) := ⟨_, rfl⟩
  have e3 : w3.heap.size = w1.heap.size + 2 := by rw [hw3, ← Nat.add_right_comm w1.heap.size 1 1, ← e2]; simp
  rw [← hw3] at q3 r3
  rw [e2] at r3
  have q4 := bl1 w3 (.cells #[.slice (some ⟨w1.heap.size, 0, none⟩) 4 4, .slice (some ⟨w1.heap.size + 1, 0, none⟩) 5 5] 22)
  have r4 := lit_rwx (f := fun p : Value × List Nat => p.1) w3 #[.slice (some ⟨w1.heap.size, 0, none⟩) 4 4, .slice (some ⟨w1.heap.size + 1, 0, none⟩) 5 5] 22 (0, 0) [(.slice (some ⟨w1.heap.size, 0, none⟩) 4 4, [49, 50, 51, 52]), (.slice (some ⟨w1.heap.size + 1, 0, none⟩) 5 5, [53, 54, 55, 56, 57])] rfl
  rw [e3] at r4
  have HS := sum_any _ _ _ r4 (by
    intro p hp
    simp only [List.mem_cons, List.mem_nil_iff, or_false] at hp
    rcases hp with rfl | rfl
    · exact ⟨(r2.below q3).below q4, by show 4 ≤ _; decide, by show ∀ b ∈ [49, 50, 51, 52], b < 256; decide⟩
    · exact ⟨r3.below q4, by show 5 ≤ _; decide, by show ∀ b ∈ [53, 54, 55, 56, 57], b < 256; decide⟩) (by show 2 ≤ _; decide) (((HT1.out.below q2).below q3).below q4)
  have HB4 := hid13 (keepb q4 (keepb q3 (keepb q2 HB.out)))
  have hsum : uI (crS (([(.slice (some ⟨w1.heap.size, 0, none⟩) 4 4, [49, 50, 51, 52]), (.slice (some ⟨w1.heap.size + 1, 0, none⟩) 5 5, [53, 54, 55, 56, 57])] : List (Value × List Nat)).map (·.2)).flatten) = 3808858755 := by
    show uI (crS [49, 50, 51, 52, 53, 54, 55, 56, 57]) = 3808858755
    rw [known_sum, uI_of 3808858755 (by decide)]
    rfl
  rw [hsum] at HS
  have hm4 := keepc q4 (keepc q3 (keepc q2 hm0))
  have hr4 := keepc q4 (keepc q3 (keepc q2 hr1))
  rw [hw3, hw2] at HS HB4 hm4 hr4
  have HS' := hid13 HS
  have HM4 := hid13 hm4
  have HR4 := hid13 hr4
  clear q2 r2 q3 r3 q4 r4 HS hsum hm0 hr1 e2 e3 hw2 hw3 w2 w3 HB HT1 hm4 hr4
  have kc := fun (w : World) (C : Array Value) (n c : Nat) => Lib.run_convert_bytes_const (P := Tryd.prog) w 22 5 C n c Tryd.underlying22 Tryd.underlying5
  have kc2 := kc (w1.alloc (.cells #[.int .u8 49, .int .u8 50, .int .u8 51, .int .u8 52] 5 (4, 5))) #[.int .u8 53, .int .u8 54, .int .u8 55, .int .u8 56, .int .u8 57] 5 5
  rw [show (w1.alloc (.cells #[.int .u8 49, .int .u8 50, .int .u8 51, .int .u8 52] 5 (4, 5))).heap.size = w1.heap.size + 1 by simp] at kc2
  go_wp2_with fail
  refine HS'.out.mono ?_
  rintro e w5 ⟨rfl, hw5⟩
  rw [← hw5] at HM4 HR4 HB4
  have hm5 := HM4.out
  have hr5 := HR4.out
  clear HS' hw5 HM4 HR4 kc kc2
  go_wp2
  go_ret
  exact ⟨rfl, HB4.out⟩
end Go.Proofs.YthbdmdafldombaaDoor
