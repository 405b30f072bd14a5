/-
  Part 16 of the proof: 5 texts, one behind the other.
-/
import Derived.Test.YtiachojhnbicaabDoorPart3
import Derived.Test.YtiachojhnbicaabDoorPart2
import Derived.Test.YtiachojhnbicaabDoorPart12
import Derived.Test.YtiachojhnbicaabDoorPart5
import Derived.Test.YtiachojhnbicaabDoorPart7
import Derived.Lib.SlBytesConst
import Derived.Lib.SmallJoins
import Derived.Test.YtiachojhnbicaabDoorPart1
import Derived.Test.YtiachojhnbicaabDoorPart13
namespace Go.Proofs.YtiachojhnbicaabDoor
open Go.RowKit
set_option linter.unusedSimpArgs false
set_option linter.unusedVariables false

set_option maxRecDepth 100000 in
set_option maxHeartbeats 8000000 in
theorem rput17 (w0 : World) (v : Value) (l : List Nat) (x : Nat) (K : Int) (k : Nat) (hK : K = (k : Int)) (hk0 : 0 < k) (hk : k ≤ 4) (w : World) (hS : PS13 w0 w v l) (hl : l.length ≤ 140737488355000) (hx : x < 4294967296) :
    Calls Tryd.prog 8 #[v, .int .u32 (x : Int), .int .i64 K] w fun e w' => ∃ v', e = .returned v' ∧ w'.ownsRow w0.heap.size 5 1 v' (l ++ lastB x k).length ((l ++ lastB x k).map cB) ∧ Below w0.heap.size w0 w' := by
  subst hK
  have HS0 := hid13 hS
  obtain ⟨N, hN⟩ : ∃ N : Int, N = (x : Int) := ⟨_, rfl⟩
  have HN := hid13 hN
  have hN0 : 0 ≤ N := by omega
  have hN1 : N < 4294967296 := by omega
  have hq : N / 16777216 < 256 := by omega
  have hq0 : 0 ≤ N / 16777216 := by omega
  rw [← hN]
  have hki : (k : Int) ≤ 4 := by omega
  have HK0 : Hid (0 < k ∧ k ≤ 4 ∧ l.length ≤ 140737488355000) := ⟨hk0, hk, hl⟩
  clear hN hS hx hk0 hk hl
  go_enter Tryd.func8, Tryd.ntmps8
  go_wp2_with fail
  go_loopg [0, 7] k (fun g vb i wr => ∃ (c : Nat) (v : Value) (R : List Nat), c = g ∧ c ≤ k ∧ vb = v ∧ i = .int .i64 ((c : Int) - 1) ∧ Hid (PS13 w0 wr v R) ∧ (c < k → wr.ownsRow w0.heap.size 5 1 v R.length (R.map cB)) ∧ Hid (R ++ lastB x c = l ++ lastB x k))
  case atStart => exact ⟨k, _, l, rfl, Nat.le_refl _, rfl, rfl, HS0, fun h => by omega, rfl⟩
  case round =>
    clear HS0
    obtain ⟨c, vb, R, rfl, hck, hvb, rfl, HS, HO, HR0⟩ := hrel
    subst hvb
    cases c with
    | zero =>
      have HO2 := hid13 (HO HK0.out.1)
      have e : R = l ++ lastB x k := by have := HR0.out; simp only [lastB, List.append_nil] at this; exact this
      subst e
      clear HO
      go_wp2_with fail
      exact bodyPost_ret (v := u0) (by simp [results, Tryd.results8, go_sem]) rfl ⟨_, rfl, HO2.out, HS.out.1⟩
    | succ c =>
      have HR : Hid (R.length ≤ 140737488355200) := by
        have h1 := congrArg List.length HR0.out
        have h2 : ∀ c, (lastB x c).length = c := by intro c; induction c with | zero => rfl | succ c ih => simp [lastB, ih]
        rw [List.length_append, List.length_append, h2, h2] at h1
        have := HK0.out
        show _ ≤ _
        omega
      obtain ⟨b, hb⟩ : ∃ b, b = x / 256 ^ c % 256 := ⟨_, rfl⟩
      have HP : Hid ((R ++ [b]) ++ lastB x c = l ++ lastB x k) := by
        have := HR0.out
        simp only [lastB] at this
        rw [List.append_assoc, hb]; exact this
      obtain ⟨y, hyb⟩ : ∃ y : Int, y = (b : Int) := ⟨_, rfl⟩
      have HY : Hid (N = (x : Int) ∧ x < 4294967296 ∧ y = ((x / 256 ^ c % 256 : Nat) : Int)) := ⟨HN.out, by have := HN.out; omega, by rw [hyb, hb]⟩
      have HK : Hid (c < c + 1 ∧ c ≤ k) := ⟨by omega, by omega⟩
      have hc4 : c < 4 := by have := HK0.out; omega
      have hp1 : ((c + 1 : Nat) : Int) - 1 = (c : Int) := by omega
      rw [hp1]
      clear HO HR0 hb hp1 hck
      rcases c with _ | _ | _ | _ | c
      · have hy : N % 256 = y := by have := HY.out; simp at this; omega
        go_wp2_with (at_builtin; apply stopHere9)
        refine (show wpList _ _ _ _ _ _ from ?_)
        try rw [hyb]
        refine wpList_put13 rfl _ _ rfl w0 wr u0 R HS.out b HR.out rfl rfl ?_
        intro v5 w5 ho5 hb5
        have HS5 : Hid (PS13 w0 w5 v5 (R ++ [b])) := ⟨hb5, .inl ho5⟩
        have HW5 := hid13 ho5
        clear ho5 hb5 HS
        go_wp2
        go_roundg 0
        case measure => exact HK.out.1
        case rel => exact ⟨0, v5, R ++ [b], rfl, HK.out.2, rfl, rfl, HS5, fun _ => HW5.out, HP.out⟩
      · have hy : N / 256 % 256 = y := by have := HY.out; simp at this; omega
        go_wp2_with (at_builtin; apply stopHere9)
        refine (show wpList _ _ _ _ _ _ from ?_)
        try rw [hyb]
        refine wpList_put13 rfl _ _ rfl w0 wr u0 R HS.out b HR.out rfl rfl ?_
        intro v5 w5 ho5 hb5
        have HS5 : Hid (PS13 w0 w5 v5 (R ++ [b])) := ⟨hb5, .inl ho5⟩
        have HW5 := hid13 ho5
        clear ho5 hb5 HS
        go_wp2
        go_roundg 1
        case measure => exact HK.out.1
        case rel => exact ⟨1, v5, R ++ [b], rfl, HK.out.2, rfl, rfl, HS5, fun _ => HW5.out, HP.out⟩
      · have hy : N / 65536 % 256 = y := by have := HY.out; simp at this; omega
        go_wp2_with (at_builtin; apply stopHere9)
        refine (show wpList _ _ _ _ _ _ from ?_)
        try rw [hyb]
        refine wpList_put13 rfl _ _ rfl w0 wr u0 R HS.out b HR.out rfl rfl ?_
        intro v5 w5 ho5 hb5
        have HS5 : Hid (PS13 w0 w5 v5 (R ++ [b])) := ⟨hb5, .inl ho5⟩
        have HW5 := hid13 ho5
        clear ho5 hb5 HS
        go_wp2
        go_roundg 2
        case measure => exact HK.out.1
        case rel => exact ⟨2, v5, R ++ [b], rfl, HK.out.2, rfl, rfl, HS5, fun _ => HW5.out, HP.out⟩
      · have hy : N / 16777216 = y := by have := HY.out; simp at this; omega
        go_wp2_with (at_builtin; apply stopHere9)
        refine (show wpList _ _ _ _ _ _ from ?_)
        try rw [hyb]
        refine wpList_put13 rfl _ _ rfl w0 wr u0 R HS.out b HR.out rfl rfl ?_
        intro v5 w5 ho5 hb5
        have HS5 : Hid (PS13 w0 w5 v5 (R ++ [b])) := ⟨hb5, .inl ho5⟩
        have HW5 := hid13 ho5
        clear ho5 hb5 HS
        go_wp2
        go_roundg 3
        case measure => exact HK.out.1
        case rel => exact ⟨3, v5, R ++ [b], rfl, HK.out.2, rfl, rfl, HS5, fun _ => HW5.out, HP.out⟩
      · omega

end Go.Proofs.YtiachojhnbicaabDoor
namespace Go.Proofs.YtiachojhnbicaabDoor
open Go.RowKit Go.Shelf
set_option linter.unusedSimpArgs false
set_option linter.unusedVariables false
attribute [local go_sem] Oper.semAt_some

theorem rput21 (w0 : World) (v : Value) (l : List Nat) (x : Nat) (w : World) (hS : PS13 w0 w v l) (hl : l.length ≤ 140737488355000) (hx : x < 4294967296) :
    Calls Tryd.prog 8 #[v, .int .u32 (x : Int), .int .i64 4] w fun e w' => ∃ v', e = .returned v' ∧ w'.ownsRow w0.heap.size 5 1 v' (ld21 l [x]).length ((ld21 l [x]).map cB) ∧ Below w0.heap.size w0 w' := by
  have h := rput17 w0 v l x 4 4 rfl (by decide) (by decide) w hS hl hx
  rw [lastB_four x hx] at h
  have e : l ++ by4 x = ld21 l [x] := by unfold ld21; simp
  rw [e] at h
  exact h
end Go.Proofs.YtiachojhnbicaabDoor
namespace Go.Proofs.YtiachojhnbicaabDoor
set_option linter.unusedSimpArgs false
set_option linter.unusedVariables false

theorem df_bring (a b : List Nat) : ((dfL a b).map fun p => p.x.length).sum = if a = b then 0 else b.length - dfK a b - dfT a b := by
  unfold dfL
  split
  · rfl
  · simp only [List.map_cons, List.map_nil, List.sum_cons, List.sum_nil, Nat.add_zero]
    exact dfX_len a b
theorem dfL_len (a b : List Nat) : (dfL a b).length = if a = b then 0 else 1 := by
  unfold dfL
  split <;> rfl
end Go.Proofs.YtiachojhnbicaabDoor
namespace Go.Proofs.YtiachojhnbicaabDoor
set_option linter.unusedSimpArgs false
set_option linter.unusedVariables false

def ptB21 (p : Pt) : List Nat := ld21 [] [p.k.toNat, p.d.toNat, p.x.length] ++ p.x
theorem byF_eq (o : List Nat) (p : Pt) : byF o p = o ++ ptB21 p := by
  unfold byF ptB21 ld21
  simp
theorem byS_eq (a : List Nat) (n : Nat) (L : List Pt) : byS a n L = byH a n ++ L.flatMap ptB21 := by
  unfold byS
  suffices h : ∀ (L : List Pt) (o : List Nat), L.foldl byF o = o ++ L.flatMap ptB21 from h L _
  intro L
  induction L with
  | nil => intro o; simp
  | cons p L ih =>
    intro o
    rw [List.foldl_cons, ih, byF_eq, List.flatMap_cons, List.append_assoc]
theorem ptB21_eq (p : Pt) (r : List Nat) : ptB21 p ++ r = by4 p.k.toNat ++ (by4 p.d.toNat ++ (by4 p.x.length ++ (p.x ++ r))) := by
  unfold ptB21 ld21
  simp
theorem fit_df (a b : List Nat) : fitB a.length (dfL a b) = true := by
  unfold dfL
  split
  · rfl
  · have h := df_le a b
    have ho : okP (a.length : Int) (dfP a b) := by
      unfold okP dfP
      dsimp only
      omega
    unfold fitB ftS ftF
    simp only [List.foldl_cons, List.foldl_nil]
    rw [if_pos ho]
    rfl
theorem wt_df (a b : List Nat) : wt21 (dfL a b) ≤ b.length := by
  unfold wt21
  rw [df_bring]
  split <;> omega
end Go.Proofs.YtiachojhnbicaabDoor
namespace Go.Proofs.YtiachojhnbicaabDoor
set_option linter.unusedSimpArgs false
set_option linter.unusedVariables false

theorem byB_eq (a : List Nat) (L : List Pt) (hf : fitB a.length L = true) : ∃ S, byB a L = S ++ by4 (crS S).toNat ∧ S = [84, 80, 68, 49] ++ (by4 a.length ++ (by4 (crS a).toNat ++ (by4 L.length ++ L.flatMap ptB21))) := by
  refine ⟨byS a L.length L, ?_, ?_⟩
  · unfold byB
    rw [if_pos hf]
    unfold bySum ld21
    simp
  · rw [byS_eq]
    unfold byH ld21
    simp
theorem ps_other (a : List Nat) (L : List Pt) (hf : fitB a.length L = true) (ha : a.length < 4294967296) (x : Nat) : psR (a ++ [x]) (byB a L) = (33, []) := by
  obtain ⟨S, eB, eS⟩ := byB_eq a L hf
  have hSl : 16 ≤ S.length := by rw [eS]; simp [by4_len21]; omega
  rw [eB]
  have hlen : (S ++ by4 (crS S).toNat).length = S.length + 4 := by rw [List.length_append, by4_len21]
  have hc4 : (crS S).toNat < 4294967296 := (crS S).isLt
  have t1 : (S ++ by4 (crS S).toNat).take 4 = [84, 80, 68, 49] := by rw [eS]; rfl
  have t2 : (S ++ by4 (crS S).toNat).drop ((S ++ by4 (crS S).toNat).length - 4) = by4 (crS S).toNat := by rw [hlen, Nat.add_sub_cancel]; exact List.drop_left' rfl
  have t3 : (S ++ by4 (crS S).toNat).take ((S ++ by4 (crS S).toNat).length - 4) = S := by rw [hlen, Nat.add_sub_cancel]; exact List.take_left' rfl
  have t5 : ((S ++ by4 (crS S).toNat).drop 4).take 4 = by4 a.length := by rw [eS]; rfl
  rw [psR_rm _ _ (by rw [hlen]; omega), t1, if_neg (nn21 rfl), t2, t3]
  have e4 : (by4 (crS S).toNat).take 4 = by4 (crS S).toNat := rfl
  rw [e4, num4 _ hc4, if_neg (nn21 rfl), t5, num4 _ ha, if_pos (fun q => by have := q.1; rw [List.length_append] at this; simp at this)]
theorem ptB21_len (p : Pt) : (ptB21 p).length = 12 + p.x.length := by
  unfold ptB21
  rw [List.length_append, ld21_len]
  show 0 + 4 * 3 + _ = _
  omega
theorem ps_cut (a : List Nat) (L : List Pt) (hf : fitB a.length L = true) (hl : L.length ≤ 1) (hw : ∀ p ∈ L, p.x.length < 4294967296) (k : Nat) (hk : k < (byB a L).length) : (psR a ((byB a L).take k)).1 ≠ 0 := by
  obtain ⟨S, eB, eS⟩ := byB_eq a L hf
  obtain ⟨s, hs⟩ : ∃ s, s = byB a L := ⟨_, rfl⟩
  rw [← hs] at hk ⊢
  have hlS : S.length = 16 + (L.flatMap ptB21).length := by rw [eS]; simp [by4_len21]; omega
  have hls : s.length = 20 + (L.flatMap ptB21).length := by rw [hs, eB, List.length_append, by4_len21, hlS]; omega
  have hck : (s.take k).length = k := by rw [List.length_take]; omega
  by_cases h20 : 20 ≤ k
  rotate_left 1
  · unfold psR
    rw [if_pos (by rw [hck]; omega)]
    decide
  rw [psR_rm _ _ (by rw [hck]; exact h20), hck]
  split
  · decide
  split
  · decide
  split
  · decide
  have e12 : ((s.take k).drop 12).take 4 = by4 L.length := by
    rw [List.drop_take, List.take_take, Nat.min_eq_left (by omega), hs, eB, eS]
    rfl
  have e16 : rm21 (s.take k) (k - 4) 16 = (L.flatMap ptB21).take (k - 20) := by
    unfold rm21
    rw [List.drop_take, List.take_take, show min (k - 4 - 16) (k - 16) = k - 20 by omega, hs, eB, List.drop_append_of_le_length (by omega)]
    have : S.drop 16 = L.flatMap ptB21 := by rw [eS]; rfl
    rw [this, List.take_append_of_le_length (by omega)]
  rw [e12, e16, num4 _ (by omega)]
  match L, hl, hw with
  | [], _, _ => simp at hls; omega
  | [p], _, hw =>
    have hpx := hw p (by simp)
    have hF : ([p].flatMap ptB21) = ptB21 p := by simp
    rw [hF] at hls ⊢
    rw [ptB21_len] at hls
    have hpc : pcP ((ptB21 p).take (k - 20)) = none := by
      have hj : ((ptB21 p).take (k - 20)).length = k - 20 := by rw [List.length_take, ptB21_len]; omega
      unfold pcP
      by_cases h12 : k - 20 < 12
      · rw [if_pos (by rw [hj]; exact h12)]
      · rw [if_neg (by rw [hj]; exact h12)]
        have e8 : (((ptB21 p).take (k - 20)).drop 8).take 4 = by4 p.x.length := by
          rw [List.drop_take, List.take_take, Nat.min_eq_left (by omega)]
          have := ptB21_eq p []
          rw [List.append_nil, List.append_nil] at this
          rw [this]
          rfl
        rw [e8, num4 _ hpx, if_pos (by rw [List.length_drop, hj]; omega)]
    show (match lsP 1 _ with | none => _ | some (L, r) => _ : Int × List Pt).1 ≠ 0
    unfold lsP
    rw [hpc]
    show ((22 : Int), ([] : List Pt)).1 ≠ 0
    decide
  | p :: q :: L, hl, _ => simp at hl
end Go.Proofs.YtiachojhnbicaabDoor
