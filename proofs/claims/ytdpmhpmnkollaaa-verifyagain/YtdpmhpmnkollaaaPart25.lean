/-
  Part 25 of the proof: 2 texts, one behind the other.
-/
import Derived.Test.YtdpmhpmnkollaaaPart24
import Derived.Test.YtdpmhpmnkollaaaPart5
import Derived.Test.YtdpmhpmnkollaaaPart18
import Derived.Test.YtdpmhpmnkollaaaPart23
namespace Go.Proofs.Ytdpmhpmnkollaaa
open Go.RowKit
set_option linter.unusedSimpArgs false
set_option linter.unusedVariables false

set_option maxRecDepth 100000 in
set_option maxHeartbeats 8000000 in
theorem rput14 (w0 : World) (ao : Option Addr) (cc : Nat) (l : List Nat) (x : Nat) (K : Int) (k : Nat) (hK : K = (k : Int)) (hk0 : 0 < k) (hk : k ≤ 4) (w : World) (hS0 : PS13 w0 w (.slice ao l.length cc) l) (hl : l.length ≤ 140737488355000) (hx : x < 4294967296) :
    Calls Try.prog 60 #[.slice ao l.length cc, .int .u32 (x : Int), .int .i64 K] w fun e w' => ∃ v', e = .returned v' ∧ w'.ownsRow w0.heap.size 5 1 v' (l ++ lastB x k).length ((l ++ lastB x k).map cB) ∧ Below w0.heap.size w0 w' := by
  subst hK
  have HS0 := hid13 hS0
  obtain ⟨N, hN⟩ : ∃ N : Int, N = (x : Int) := ⟨_, rfl⟩
  have HN := hid13 hN
  have hN0 : 0 ≤ N := by omega
  have hN1 : N < 4294967296 := by omega
  have hq : N / 16777216 < 256 := by omega
  have hq0 : 0 ≤ N / 16777216 := by omega
  rw [← hN]
  have hki : (k : Int) ≤ 4 := by omega
  have HK0 : Hid (0 < k ∧ k ≤ 4 ∧ l.length ≤ 140737488355000) := ⟨hk0, hk, hl⟩
  clear hN hS0 hx hk0 hk hl
  go_enter Try.func60, Try.ntmps60
  go_wp2_with fail
  go_loopg [0, 7] k (fun g vb i wr => ∃ (c : Nat) (v : Value) (R : List Nat), c = g ∧ c ≤ k ∧ vb = v ∧ i = .int .i64 ((c : Int) - 1) ∧ Hid (PS13 w0 wr v R) ∧ (c < k → wr.ownsRow w0.heap.size 5 1 v R.length (R.map cB)) ∧ Hid (R ++ lastB x c = l ++ lastB x k))
  case atStart => exact ⟨k, _, l, rfl, Nat.le_refl _, rfl, rfl, HS0, fun h => by omega, rfl⟩
  case round =>
    clear HS0
    obtain ⟨c, vb, R, rfl, hck, hvb, rfl, HS, HO, HR0⟩ := hrel
    subst hvb
    cases c with
    | zero =>
      have HO2 := hid13 (HO HK0.out.1)
      have e : R = l ++ lastB x k := by have := HR0.out; simp only [lastB, List.append_nil] at this; exact this
      subst e
      clear HO
      go_wp2_with fail
      exact bodyPost_ret (v := u0) (by simp [results, Try.results60, go_sem]) rfl ⟨_, rfl, HO2.out, HS.out.1⟩
    | succ c =>
      have HR : Hid (R.length ≤ 140737488355200) := by
        have h1 := congrArg List.length HR0.out
        have h2 : ∀ c, (lastB x c).length = c := by intro c; induction c with | zero => rfl | succ c ih => simp [lastB, ih]
        rw [List.length_append, List.length_append, h2, h2] at h1
        have := HK0.out
        show _ ≤ _
        omega
      obtain ⟨b, hb⟩ : ∃ b, b = x / 256 ^ c % 256 := ⟨_, rfl⟩
      have HP : Hid ((R ++ [b]) ++ lastB x c = l ++ lastB x k) := by
        have := HR0.out
        simp only [lastB] at this
        rw [List.append_assoc, hb]; exact this
      obtain ⟨y, hyb⟩ : ∃ y : Int, y = (b : Int) := ⟨_, rfl⟩
      have HY : Hid (N = (x : Int) ∧ x < 4294967296 ∧ y = ((x / 256 ^ c % 256 : Nat) : Int)) := ⟨HN.out, by have := HN.out; omega, by rw [hyb, hb]⟩
      have HK : Hid (c < c + 1 ∧ c ≤ k) := ⟨by omega, by omega⟩
      have hc4 : c < 4 := by have := HK0.out; omega
      have hp1 : ((c + 1 : Nat) : Int) - 1 = (c : Int) := by omega
      rw [hp1]
      clear HO HR0 hb hp1 hck
      rcases c with _ | _ | _ | _ | c
      · have hy : N % 256 = y := by have := HY.out; simp at this; omega
        go_wp2_with (at_builtin; apply stopHere9)
        refine (show wpList _ _ _ _ _ _ from ?_)
        try rw [hyb]
        refine wpList_put13 rfl _ _ rfl w0 wr u0 R HS.out b HR.out rfl rfl ?_
        intro v5 w5 ho5 hb5
        have HS5 : Hid (PS13 w0 w5 v5 (R ++ [b])) := ⟨hb5, .inl ho5⟩
        have HW5 := hid13 ho5
        clear ho5 hb5 HS
        go_wp2
        go_roundg 0
        case measure => exact HK.out.1
        case rel => exact ⟨0, v5, R ++ [b], rfl, HK.out.2, rfl, rfl, HS5, fun _ => HW5.out, HP.out⟩
      · have hy : N / 256 % 256 = y := by have := HY.out; simp at this; omega
        go_wp2_with (at_builtin; apply stopHere9)
        refine (show wpList _ _ _ _ _ _ from ?_)
        try rw [hyb]
        refine wpList_put13 rfl _ _ rfl w0 wr u0 R HS.out b HR.out rfl rfl ?_
        intro v5 w5 ho5 hb5
        have HS5 : Hid (PS13 w0 w5 v5 (R ++ [b])) := ⟨hb5, .inl ho5⟩
        have HW5 := hid13 ho5
        clear ho5 hb5 HS
        go_wp2
        go_roundg 1
        case measure => exact HK.out.1
        case rel => exact ⟨1, v5, R ++ [b], rfl, HK.out.2, rfl, rfl, HS5, fun _ => HW5.out, HP.out⟩
      · have hy : N / 65536 % 256 = y := by have := HY.out; simp at this; omega
        go_wp2_with (at_builtin; apply stopHere9)
        refine (show wpList _ _ _ _ _ _ from ?_)
        try rw [hyb]
        refine wpList_put13 rfl _ _ rfl w0 wr u0 R HS.out b HR.out rfl rfl ?_
        intro v5 w5 ho5 hb5
        have HS5 : Hid (PS13 w0 w5 v5 (R ++ [b])) := ⟨hb5, .inl ho5⟩
        have HW5 := hid13 ho5
        clear ho5 hb5 HS
        go_wp2
        go_roundg 2
        case measure => exact HK.out.1
        case rel => exact ⟨2, v5, R ++ [b], rfl, HK.out.2, rfl, rfl, HS5, fun _ => HW5.out, HP.out⟩
      · have hy : N / 16777216 = y := by have := HY.out; simp at this; omega
        go_wp2_with (at_builtin; apply stopHere9)
        refine (show wpList _ _ _ _ _ _ from ?_)
        try rw [hyb]
        refine wpList_put13 rfl _ _ rfl w0 wr u0 R HS.out b HR.out rfl rfl ?_
        intro v5 w5 ho5 hb5
        have HS5 : Hid (PS13 w0 w5 v5 (R ++ [b])) := ⟨hb5, .inl ho5⟩
        have HW5 := hid13 ho5
        clear ho5 hb5 HS
        go_wp2
        go_roundg 3
        case measure => exact HK.out.1
        case rel => exact ⟨3, v5, R ++ [b], rfl, HK.out.2, rfl, rfl, HS5, fun _ => HW5.out, HP.out⟩
      · omega
set_option maxRecDepth 100000 in
set_option maxHeartbeats 8000000 in
theorem rencode14 (O k : Nat) (v : Value) (m : List (BitVec 32)) (w : World) (hv : RwX cU w v m) (h0 : chkE (O : Int) (k : Int) m = 0) :
    Calls Try.prog 46 #[.agg #[.int .i64 (O : Int), .int .i64 (k : Int), v]] w fun e w' => ∃ v', e = .returned (.tuple #[v', .int .i64 0]) ∧ w'.ownsRow w.heap.size 5 1 v' (wdB O k m).length ((wdB O k m).map cB) ∧ Below w.heap.size w w' := by
  obtain ⟨ao, c, hvf, -⟩ := id hv
  have q1 := bl1 w (.cells #[.int .i64 (O : Int), .int .i64 (k : Int), v] 67)
  have HA1 := hid13 (ati_new w (O : Int) (k : Int) v 67)
  have K1 := rcheck14 (O : Int) (k : Int) v m _ (hv.below q1)
  have HB := hid13 q1
  have HV := hid13 hv
  obtain ⟨hO, hk, hml⟩ := chk_zero h0
  rw [h0] at K1
  subst hvf
  have hor : bits .or .u32 ((O : Int) * 16777216) (k : Int) = ((O * 16777216 + k : Nat) : Int) := orN32 (O * 16777216) k 24 (by omega) (by omega) (by omega) _ _ (by omega) rfl
  have hw1 : IntKind.u32.wrap (O : Int) = (O : Int) := wrap32n O (by omega)
  have hw2 : IntKind.u32.wrap (k : Int) = (k : Int) := wrap32n k (by omega)
  have hw3 : IntKind.u32.wrap ((O : Int) * 16777216) = (O : Int) * 16777216 := by have := wrap32n (O * 16777216) (by omega); simpa using this
  obtain ⟨F, hF⟩ : ∃ F : Nat, F = O * 16777216 + k := ⟨_, rfl⟩
  rw [← hF] at hor
  have hF4 : F < 4294967296 := by omega
  have HF : Hid (F = (fstW O k).toNat ∧ m.length ≤ 524288 ∧ F < 4294967296) := ⟨by unfold fstW; rw [BitVec.toNat_ofNat, hF]; omega, hml, hF4⟩
  clear q1 hv h0 hO hk hml hF hF4
  go_enter Try.func46, Try.ntmps46
  go_wp2_with fail
  refine K1.mono ?_
  rintro e w2 ⟨rfl, hb2⟩
  have HB2 := hid13 (keepb hb2 HB.out)
  have HA2 := hid13 (HA1.out.below hb2)
  obtain ⟨b0, b1, b2⟩ := HA2.out
  have K3 := rput14 w2 none 0 [] F 4 4 rfl (by decide) (by decide) w2 ⟨Below.refl _ _, .inl (World.ownsRow_nil _ _ _ _)⟩ (by simp) HF.out.2.2
  rw [List.nil_append, lastB_four F HF.out.2.2, HF.out.1] at K3
  clear K1 hb2 HB HA1
  rw [show (((fstW O k).toNat : Nat) : Int) = (F : Int) by rw [← HF.out.1]] at K3
  go_wp2_with fail
  refine K3.mono ?_
  rintro e w3 ⟨v3, rfl, hO3, hb3⟩
  have HS0 : Hid (Below w2.heap.size w2 w3 ∧ w3.ownsRow w2.heap.size 5 1 v3 ((fstW O k :: m.take 0).flatMap fun x => by4 x.toNat).length (((fstW O k :: m.take 0).flatMap fun x => by4 x.toNat).map cB)) := by
    refine ⟨hb3, ?_⟩
    have e : ((fstW O k :: m.take 0).flatMap fun x => by4 x.toNat) = by4 (fstW O k).toNat := by simp
    rw [e]; exact hO3
  clear K3 hO3 hb3 b0 b1 b2 hor hw1 hw2 hw3
  go_wp2
  go_loopg [5, 6] m.length (fun g vb i wr => ∃ (j : Nat), j + g = m.length ∧ i = .int .i64 (j : Int) ∧ Hid (Below w2.heap.size w2 wr ∧ wr.ownsRow w2.heap.size 5 1 vb ((fstW O k :: m.take j).flatMap fun x => by4 x.toNat).length (((fstW O k :: m.take j).flatMap fun x => by4 x.toNat).map cB)))
  case atStart => exact ⟨0, by omega, rfl, HS0⟩
  case round =>
    clear HS0
    obtain ⟨j, hj, rfl, HS⟩ := hrel
    obtain ⟨b0, b1, b2⟩ := HA2.out.below HS.out.1
    by_cases hlt : j < m.length
    · have hli : (j : Int) < (m.length : Int) := by omega
      obtain ⟨x, hx⟩ : ∃ x, m[j]? = some x := ⟨m[j], by simp [hlt]⟩
      obtain ⟨b, off, hao, hcell⟩ : ∃ b off, ao = some ⟨b, off, none⟩ ∧ ∀ j x, m[j]? = some x → wr.cell? ⟨b, off + j, none⟩ = some (cU x) := by
        obtain ⟨ao', c', e, hc, hr⟩ := (HV.out.below HB2.out).below HS.out.1
        injection e with e1 e2 e3
        subst e1
        rcases hr with h | h
        · rw [h] at hlt; simp at hlt
        · exact h
      subst hao
      have hrd : wr.cell? ⟨b, off + j, none⟩ = some (.int .u32 (uI x)) := hcell j x hx
      obtain ⟨R, hR⟩ : ∃ R, R = ((fstW O k :: m.take j).flatMap fun x => by4 x.toNat) := ⟨_, rfl⟩
      have hRl : R.length ≤ 4000000 := by rw [hR, fm_len]; simp; have := HF.out; omega
      have htk : ((fstW O k :: m.take (j + 1)).flatMap fun x => by4 x.toNat) = R ++ by4 x.toNat := by
        rw [hR, List.take_add_one, hx, ← List.cons_append, List.flatMap_append]
        simp
      have HO := HS.out.2
      rw [← hR] at HO
      obtain ⟨xo, xc, hv⟩ := own_form HO
      have K4 := rput14 w2 xo xc R x.toNat 4 4 rfl (by decide) (by decide) wr ⟨HS.out.1, .inl (by rw [← hv]; exact HO)⟩ (by omega) x.isLt
      rw [lastB_four _ x.isLt, ← htk, ← uI_eq] at K4
      have mj : IntKind.i64.wrap ((j : Int) + 1) = (j : Int) + 1 := by rw [IntKind.wrap_i64]; have := HF.out; omega
      have HK : Hid (j + gk = m.length ∧ j < m.length) := ⟨hj, hlt⟩
      subst hv
      clear hx hcell htk hR HO hlt hj HS
      go_wp2_with fail
      refine K4.mono ?_
      rintro e w4 ⟨v4, rfl, hO4, hb4⟩
      have HS4 := hid13 (And.intro hb4 hO4)
      clear K4 hO4 hb4 b0 b1 b2 hrd
      go_wp2
      go_roundg (gk - 1)
      case measure => have := HK.out; omega
      case rel => exact ⟨j + 1, by have := HK.out; omega, rfl, HS4⟩
    · have hli : ¬ (j : Int) < (m.length : Int) := by omega
      have HE : Hid (wr.ownsRow w2.heap.size 5 1 u5 (wdB O k m).length ((wdB O k m).map cB)) := by
        have := HS.out.2
        rw [List.take_of_length_le (by omega)] at this
        exact this
      have HBw := hid13 (HB2.out.trans (HS.out.1.mono HB2.out.size))
      have hsz : w.heap.size ≤ w2.heap.size := HB2.out.size
      clear HS
      go_wp2
      exact bodyPost_ret (v := .tuple #[u5, .int .i64 0]) (by simp [results, Try.results46, go_sem]) rfl ⟨_, rfl, own_wide13 HE.out hsz, HBw.out⟩
end Go.Proofs.Ytdpmhpmnkollaaa
namespace Go.Proofs.Ytdpmhpmnkollaaa
open Go.RowKit Go.Shelf
set_option linter.unusedSimpArgs false
set_option linter.unusedVariables false
attribute [local go_sem] Oper.semAt_some

theorem renc16 (op n : Int) (v : Value) (m : List (BitVec 32)) (w : World) (hv : RwX cU w v m) (h0 : chkE op n m = 0) :
    Calls Try.prog 46 #[.agg #[.int .i64 op, .int .i64 n, v]] w fun e w' => ∃ v', e = .returned (.tuple #[v', .int .i64 0]) ∧ w'.ownsRow w.heap.size 5 1 v' (wdB op.toNat n.toNat m).length ((wdB op.toNat n.toNat m).map cB) ∧ Below w.heap.size w w' := by
  obtain ⟨h1, h2, -⟩ := chk_zero h0
  obtain ⟨O, rfl⟩ : ∃ O : Nat, op = (O : Int) := ⟨op.toNat, by omega⟩
  obtain ⟨k, rfl⟩ : ∃ k : Nat, n = (k : Int) := ⟨n.toNat, by omega⟩
  rw [Int.toNat_natCast, Int.toNat_natCast]
  exact rencode14 O k v m w hv h0
theorem one_i32 (k : Nat) (h : k ≤ 31) : Op.shift .shl .u32 1 .i64 (k : Int) = pure (.int .u32 (uI (1#32 <<< k))) := by
  have h1 := one_u32 k
  rw [← h1]
  unfold Op.shift
  simp
theorem sub_row16 (a : Act) (o : Oper) (x y : Operand) (A B C : Int) (w : World) (ho : o.op = .binOp .sub 3 x y 3) (hx : a.eval x = .int .i64 A) (hy : a.eval y = .int .i64 B) (hC : IntKind.i64.wrap (A - B) = C) : (execOp a.eval o).run Try.prog w = .ok (.value (.int .i64 C)) w := by
  unfold execOp
  rw [ho]
  simp only [hx, hy]
  go_simp
theorem quo_row16 (a : Act) (o : Oper) (x y : Operand) (s q : Nat) (w : World) (ho : o.op = .binOp .quo 3 x y 3) (hx : a.eval x = .int .i64 (s : Int)) (hy : a.eval y = .int .i64 32) (h1 : (s : Int) / 32 = (q : Int)) (h2 : IntKind.i64.wrap (q : Int) = (q : Int)) : (execOp a.eval o).run Try.prog w = .ok (.value (.int .i64 (q : Int))) w := by
  unfold execOp
  rw [ho]
  simp only [hx, hy]
  go_simp
  first | done | exact h2 | (rw [h1]; exact h2)
theorem shl_row16 (a : Act) (o : Oper) (x y : Operand) (k : Nat) (w : World) (ho : o.op = .binOp .shl 96 x y 3) (hx : a.eval x = .int .u32 1) (hy : a.eval y = .int .i64 (k : Int)) (hk : k ≤ 31) : (execOp a.eval o).run Try.prog w = .ok (.value (.int .u32 (uI (1#32 <<< k)))) w := by
  have h := shl32 1#32 k
  have e : uI 1#32 = 1 := by rw [uI_eq]; rfl
  rw [e, Int.one_mul] at h
  unfold execOp
  rw [ho]
  simp only [hx, hy]
  go_simp
  rw [← h]
  simp [IntKind.wrap, IntKind.bits, IntKind.signed]
theorem w64_n16 (q : Nat) (h : q < 16777216) : wrap64 (q : Int) = (q : Int) := by unfold wrap64; omega
theorem w64_m16 (s : Nat) : wrap64 ((s : Int) % 32) = (s : Int) % 32 := by unfold wrap64; omega
theorem mapF16 (s q j : Nat) (hq : q = s / 32) (hj : j = 31 - s % 32) (hs : s < 16777216) : IntKind.i64.wrap (s : Int) = (s : Int) ∧ (s : Int) / 32 = (q : Int) ∧ (s : Int).tdiv 32 = (q : Int) ∧ IntKind.i64.wrap (31 - (s : Int) % 32) = (j : Int) ∧ 31 - (s : Int) % 32 = (j : Int) ∧ (s : Int).tmod 32 = (s : Int) % 32 ∧ wrap64 (q : Int) = (q : Int) ∧ wrap64 ((s : Int) % 32) = (s : Int) % 32 ∧ wrap64 (j : Int) = (j : Int) ∧ j ≤ 31 ∧ IntKind.i64.wrap (q : Int) = (q : Int) := by
  refine ⟨by rw [IntKind.wrap_i64]; omega, by omega, by rw [Int.tdiv_eq_ediv_of_nonneg (by omega)]; omega, by rw [IntKind.wrap_i64]; omega, by omega, Int.tmod_eq_emod_of_nonneg (by omega), w64_n16 q (by omega), w64_m16 s, w64_n16 j (by omega), by omega, by rw [IntKind.wrap_i64]; omega⟩
structure LdW (w : World) (b : Int) (vr v : Value) (code : List Nat) (W : World) : Prop where
  n : W.heap[w.heap.size]? = some (.cells #[.int .i64 b, vr] 53)
  o : W.ownsRow (w.heap.size + 1) 5 1 v code.length (code.map cB)
  b : Below w.heap.size w W
section
variable {w W W' : World} {b : Int} {vr v v' : Value} {code x : List Nat}
theorem LdW.below (h : LdW w b vr v code W) (hb : Below W.heap.size W W') : LdW w b vr v code W' := ⟨(hb.block _ (lt_16 h.n)).trans h.n, own_b13 hb h.o, keepb hb h.b⟩
theorem LdW.app (h : LdW w b vr v code W) (hg : W.grownBy W' v.ownBlock) (ho : W'.ownsRow (w.heap.size + 1) 5 1 v' (code.length + x.length) (code.map cB ++ x.map cB)) : LdW w b vr v' (code ++ x) W' := by
  refine ⟨(hg.block _ (lt_16 h.n) (fun e => ?_)).trans h.n, by rw [List.length_append, List.map_append]; exact ho, h.b.grown hg h.b.size (fun r e => ?_)⟩
  · have := own_ge16 h.o e.symm
    omega
  · have := own_ge16 h.o e
    omega
theorem LdW.far (h : LdW w b vr v code W) {G o : Nat} (u : Value) (h1 : w.heap.size < G) (h2 : v.ownBlock ≠ some G) : LdW w b vr v code (W.setCell ⟨G, o, none⟩ u) := ⟨(far_16 (by omega)).trans h.n, own_far16 h.o _ h2, h.b.setCell (p := ⟨G, o, none⟩) (by show w.heap.size ≤ G; omega) _⟩
theorem LdW.drew (h : LdW w b vr v code W) : LdW w b vr v code W.drew := ⟨h.n, h.o.drew, h.b.drew⟩
end
set_option maxRecDepth 100000 in
set_option maxHeartbeats 16000000 in
theorem rlaid_zero (vr : Value) (l : List Rn) (P : List Int) (vp : Value) (a : Nat) (w : World) (hv : RwN w vr l) (hlay : NdLay P a ⟨0, l⟩) (hk : ∀ r ∈ l, r.k = false) :
    Calls Try.prog 30 #[.agg #[.int .i64 0, vr], .int .i64 (a : Int), vp] w fun e w' => ∃ v', e = .returned v' ∧ w'.ownsRow w.heap.size 5 1 v' (ndB P a ⟨0, l⟩).length ((ndB P a ⟨0, l⟩).map cB) ∧ Below w.heap.size w w' := by
  have hl1 := hlay.z rfl
  obtain ⟨r, hl⟩ : ∃ r, l = [r] := by
    match l, hl1 with
    | [r], _ => exact ⟨r, rfl⟩
  subst hl
  have hr := (hlay.r 0 r rfl).1
  have hrk := hk r (List.mem_cons_self ..)
  have e1 : rnO r = 4 := by unfold rnO; rw [hrk]; rfl
  have e2 : rnI P (a + 0) r = r.n := by unfold rnI; rw [hrk]; rfl
  have hr' : chkE 4 r.n [] = 0 := by
    have : chkE (rnO r) (rnI P (a + 0) r) [] = 0 := hr
    rwa [e1, e2] at this
  have HN : Hid (ndB P a ⟨0, [r]⟩ = wdB (4 : Int).toNat r.n.toNat []) := by
    show rnB P a [r] = _
    show wdB (rnO r).toNat (rnI P (a + 0) r).toNat [] ++ [] = _
    rw [List.append_nil, e1, e2]
  rw [HN.out]
  have KE := fun W => renc16 4 r.n (.slice none 0 0) [] W (nil_rwx16 _) hr'
  obtain ⟨ao, c, rfl, hc, hrow⟩ := hv
  obtain ⟨rb, rof, rfl, hrc⟩ := hrow.resolve_left (by simp)
  obtain ⟨r0, r1, r2, r3⟩ := hrc 0 r rfl
  have q1 := bl1 w (.cells #[.int .i64 0, .slice (some ⟨rb, rof, none⟩) 1 c] 53)
  have r3 := keepc q1 r3
  rw [Nat.zero_mul, Nat.add_zero] at r3
  have HQ := hid13 q1
  generalize wdB (4 : Int).toNat r.n.toNat [] = B at *
  generalize r.n = rn at *
  clear hrc hrow hr hr' hrk hk e1 e2 hlay r0 r1 r2 q1 HN hl1
  show Calls Try.prog 30 #[.agg #[.int .i64 0, .slice (some ⟨rb, rof, none⟩) 1 c], .int .i64 (a : Int), vp] w _
  go_enter Try.func30, Try.ntmps30
  go_wp2_with fail
  refine (KE _).mono ?_
  rintro e w2 ⟨v2, rfl, ho2, hb2⟩
  have HO := hid13 (own_base16 (base' := w.heap.size) ho2 (by simp))
  have HB := hid13 (keepb hb2 HQ.out)
  clear KE ho2 hb2 HQ r3
  go_wp2
  go_ret
  exact ⟨_, rfl, HO.out, HB.out⟩
set_option maxRecDepth 100000 in
set_option maxHeartbeats 16000000 in
theorem rlaid_any (b : Int) (vr : Value) (l : List Rn) (P : List Int) (vp : Value) (a : Nat) (w : World) (hv : RwN w vr l) (hp : RwX cI w vp P) (hlay : NdLay P a ⟨b, l⟩) (hl : l.length ≤ 1000000) (ha : a ≤ 1048576) (hk : b = 0 → ∀ r ∈ l, r.k = false) :
    Calls Try.prog 30 #[.agg #[.int .i64 b, vr], .int .i64 (a : Int), vp] w fun e w' => ∃ v', e = .returned v' ∧ w'.ownsRow w.heap.size 5 1 v' (ndB P a ⟨b, l⟩).length ((ndB P a ⟨b, l⟩).map cB) ∧ Below w.heap.size w w' := by
  by_cases hb0 : b = 0
  · subst hb0
    exact rlaid_zero vr l P vp a w hv hlay (hk rfl)
  obtain ⟨i0, hi, hz0, hz1, hz2⟩ := info13 Try.infoU13
  obtain ⟨u0, hu, hy0, hy1, hy2⟩ := info13 Try.infoB13
  have hb1 := hlay.b0
  have hb2 := hlay.b1
  obtain ⟨nb, rfl⟩ : ∃ nb : Nat, b = (nb : Int) := ⟨b.toNat, by dsimp only at hb1; omega⟩
  have hn24 : nb ≤ 24 := by dsimp only at hb2; omega
  obtain ⟨e1, e2⟩ := hlay.e hb0
  have hrl := hlay.r
  rw [if_neg hb0] at hrl
  dsimp only at e1 e2 hrl
  rw [Int.toNat_natCast] at e2 hrl
  have hsl := hlay.s
  dsimp only at hsl
  rw [Int.toNat_natCast] at hsl
  have HR := hid13 hrl
  have HND : Hid (ndB P a ⟨(nb : Int), l⟩ = wdB 1 nb [] ++ (wdB 2 nb (mapL nb l) ++ rnB P (a + 2 + mwN nb) l)) := by
    show _ = _
    unfold ndB
    rw [if_neg hb0]
    dsimp only
    rw [Int.toNat_natCast]
  obtain ⟨D, hD⟩ : ∃ D, D = ndB P a ⟨(nb : Int), l⟩ := ⟨_, rfl⟩
  rw [← hD] at HND ⊢
  clear hD hlay hrl
  have K1 := fun W => renc16 1 (nb : Int) (.slice none 0 0) [] W (nil_rwx16 _) e1
  have K2 := fun W u (h : RwX cU W u (mapL nb l)) => renc16 2 (nb : Int) u (mapL nb l) W h e2
  rw [Int.toNat_natCast] at K1 K2
  replace K1 : ∀ W : World, Calls Try.prog 46 #[.agg #[.int .i64 1, .int .i64 (nb : Int), .slice none 0 0]] W fun e w' => ∃ v', e = .returned (.tuple #[v', .int .i64 0]) ∧ w'.ownsRow W.heap.size 5 1 v' (wdB 1 nb []).length ((wdB 1 nb []).map cB) ∧ Below W.heap.size W w' := K1
  replace K2 : ∀ (W : World) (u : Value), RwX cU W u (mapL nb l) → Calls Try.prog 46 #[.agg #[.int .i64 2, .int .i64 (nb : Int), u]] W fun e w' => ∃ v', e = .returned (.tuple #[v', .int .i64 0]) ∧ w'.ownsRow W.heap.size 5 1 v' (wdB 2 nb (mapL nb l)).length ((wdB 2 nb (mapL nb l)).map cB) ∧ Below W.heap.size W w' := K2
  have KM := fun w => rmapWords_any nb hn24 w
  have HM := hid13 (mwN_hi nb hn24)
  have HS := hid13 (fun r (h : r ∈ l) => (⟨slot_in (hsl r h) hn24, Nat.lt_of_lt_of_le (hsl r h) (Nat.pow_le_pow_right (n := 2) (by decide) hn24)⟩ : r.f.toNat / 32 < mwN nb ∧ r.f.toNat < 2 ^ 24))
  have HF0 : Hid (mapL nb l = l.foldl (fun m r => stM16 m r.f.toNat) (List.replicate (mwN nb) 0#32)) := rfl
  have hW1 : (wdB 1 nb []).length = 4 := by rw [wdB_len]; rfl
  have hW2 : (wdB 2 nb (mapL nb l)).length = 4 * (1 + mwN nb) := by rw [wdB_len, mapL_len]
  have HW := hid13 (And.intro hW1 hW2)
  generalize wdB 1 nb [] = C1 at *
  generalize wdB 2 nb (mapL nb l) = C2 at *
  generalize mapL nb l = R at *
  generalize mwN nb = mw at *
  have hbz : ((nb : Int) == 0) = false := by simpa using hb0
  obtain ⟨ao, c, rfl, hc, hrow⟩ := hv
  have HC := hid13 hrow
  obtain ⟨po, pc, rfl, -, hpr⟩ := hp
  have HP := hid13 hpr
  have q1 := bl1 w (.cells #[.int .i64 (nb : Int), .slice ao l.length c] 53)
  have n1 := new_16 w (.cells #[.int .i64 (nb : Int), .slice ao l.length c] 53)
  have HN1 := hid13 n1
  have HQ := hid13 q1
  have HK2 := hid13 K2
  clear hrow hpr e1 e2 hsl hk hb0 hb1 hb2 K2 hW1 hW2 n1 q1 hn24
  go_enter Try.func30, Try.ntmps30
  go_wp2_with fail
  refine (K1 _).mono ?_
  rintro e w2 ⟨v9, rfl, ho2, hb2⟩
  have HL2 : Hid (LdW w (nb : Int) (.slice ao l.length c) v9 C1 w2) := hid13 ⟨(hb2.block _ (lt_16 HN1.out)).trans HN1.out, own_base16 ho2 (by simp), keepb hb2 HQ.out⟩
  obtain ⟨o9, c9, hv9⟩ := own_form ho2
  subst hv9
  have a0 := at_16 HL2.out.n 0 _ rfl
  clear K1 ho2 hb2 HN1 HQ
  go_wp2_with fail
  refine (KM _).mono ?_
  rintro e w3 ⟨rfl, hw3⟩
  replace hw3 := hw3.symm
  subst hw3
  clear KM
  go_wp2_with (at_make; apply stopHere9)
  refine (show wpList _ _ _ _ _ _ from ?_)
  refine wpList_make_mid _ rfl _ _ 65 rfl w.heap.size 96 i0 (.int .u32 0) Try.underlying65 hi hz0 hz1 rfl .i64 .i64 _ _ mw mw rfl rfl rfl rfl (Nat.le_refl _) (by rw [hz2]; have := HM.out; omega) (by have := HM.out; unfold maxLen; omega) HL2.out.b.size ?_
  intro w4 ho4 hg4
  obtain ⟨G, hG⟩ : ∃ G, G = w2.heap.size := ⟨_, rfl⟩
  rw [← hG] at ho4 ⊢
  have hb4 : Below w2.heap.size w2 w4 := (Below.refl _ _).grown hg4 (Nat.le_refl _) (fun z hz => by cases hz)
  have HO4 : Hid (w4.ownsRow w.heap.size 96 1 (.slice (some ⟨G, 0, none⟩) mw mw) mw ((List.replicate mw 0#32).map cU)) := by
    show World.ownsRow _ _ _ _ _ _ _
    have e : (List.replicate mw 0#32).map cU = List.replicate mw (.int .u32 0) := by rw [List.map_replicate]; unfold cU; rw [uI_zero]
    rw [e]; exact ho4
  have HL4 := hid13 (HL2.out.below hb4)
  have HG : Hid (w.heap.size < G ∧ (Value.slice o9 C1.length c9).ownBlock ≠ some G) := ⟨by rw [hG]; exact lt_16 HL2.out.n, fun e => by have := HL2.out.o.lt _ e; omega⟩
  have HAo : Hid (a ≤ 1048576 ∧ l.length ≤ 1000000) := ⟨ha, hl⟩
  clear ho4 hg4 hb4 hG HL2 a0 hi hz0 hz1 hz2 ha
  go_wp2_with fail
  go_loopg [12] l.length (fun g kv wr => ∃ (k : Nat) (m : List (BitVec 32)), k + g = l.length ∧ kv = .int .i64 (k : Int) ∧ Hid (m.length = mw ∧ wr.ownsRow w.heap.size 96 1 (.slice (some ⟨G, 0, none⟩) mw mw) mw (m.map cU) ∧ LdW w (nb : Int) (.slice ao l.length c) (.slice o9 C1.length c9) C1 wr ∧ (l.drop k).foldl (fun m r => stM16 m r.f.toNat) m = R))
  case atStart => exact ⟨0, _, by omega, rfl, hid13 ⟨by simp, HO4.out, HL4.out, HF0.out.symm⟩⟩
  case round =>
    clear HO4 HL4
    obtain ⟨k, m, hk, rfl, HI⟩ := hrel
    have a1 := at_16 HI.out.2.2.1.n 1 _ rfl
    by_cases hlt : (k : Int) < (l.length : Int)
    · have hks : k < l.length := by omega
      obtain ⟨r, hr⟩ : ∃ r, l[k]? = some r := ⟨l[k], by simp [hks]⟩
      obtain ⟨hs1, hs2⟩ := HS.out r (List.mem_of_getElem? hr)
      obtain ⟨bb, off, rfl, hcell⟩ := HC.out.resolve_left (by rintro rfl; simp at hks)
      have HT : Hid ((l.drop (k + 1)).foldl (fun m r => stM16 m r.f.toNat) (stM16 m r.f.toNat) = R) := by
        show _ = _
        rw [← HI.out.2.2.2]
        obtain ⟨h1, h2⟩ := List.getElem?_eq_some_iff.mp hr
        rw [List.drop_eq_getElem_cons h1, h2]; rfl
      obtain ⟨-, r1, -, -⟩ := hcell k r hr
      rw [lo_small (by have : (2 : Nat) ^ 24 = 16777216 := by decide
                       omega)] at r1
      have r1 := keepc HI.out.2.2.1.b r1
      obtain ⟨s, hsd⟩ : ∃ s, s = r.f.toNat := ⟨_, rfl⟩
      rw [← hsd] at r1 hs1 hs2 HT
      obtain ⟨q, hq⟩ : ∃ q, q = s / 32 := ⟨_, rfl⟩
      obtain ⟨j, hj⟩ : ∃ j, j = 31 - s % 32 := ⟨_, rfl⟩
      have hqm : q < m.length := by rw [HI.out.1, hq]; exact hs1
      obtain ⟨x, hx⟩ : ∃ x, m[q]? = some x := ⟨m[q], List.getElem?_eq_getElem hqm⟩
      have hqi : (q : Int) < (mw : Int) := by have := HI.out.1; omega
      have mk : IntKind.i64.wrap ((k : Int) + 1) = (k : Int) + 1 := by rw [IntKind.wrap_i64]; omega
      obtain ⟨c0, f0⟩ := own_cellU HI.out.2.1 hx
      have HSt : Hid (stM16 m s = m.set q (x ||| (1#32 <<< j))) := by
        show _ = _
        unfold stM16
        rw [← hq, ← hj, List.getD_eq_getElem?_getD, hx]; rfl
      have hs24 : s < 16777216 := by have : (2 : Nat) ^ 24 = 16777216 := by decide
                                     omega
      obtain ⟨cv, e1, e1', e2, e2', e3', wq, wm, wj, hj31, uq⟩ := mapF16 s q j hq hj hs24
      have sh := one_i32 j hj31
      have or1 : bits .or .u32 (uI x) (2 ^ j % 4294967296) = uI (x ||| (1#32 <<< j)) := by
        have h := shl32 1#32 j
        have e : uI 1#32 = 1 := by rw [uI_eq]; rfl
        rw [e, Int.one_mul] at h
        rw [h]
        exact or32 x (1#32 <<< j)
      have or2 : bits .or .u32 (uI x) (uI (1#32 <<< j)) = uI (x ||| (1#32 <<< j)) := or32 x (1#32 <<< j)
      have HJ : Hid (k + gk = l.length ∧ k < l.length) := ⟨hk, hks⟩
      clear hr hcell hs1 hs2 hsd hq hj hx hqm hc hk hs24
      have HX := hid13 (And.intro e1 (And.intro e1' (And.intro e2 (And.intro e2' (And.intro e3' (And.intro wq (And.intro wm (And.intro wj (And.intro sh (And.intro or1 (And.intro or2 (And.intro hj31 uq))))))))))))
      clear e1 e1' e2 e2' e3' wq wm wj sh or1 or2 hj31 uq
      go_wp2_with fail
      obtain ⟨e1, e1', e2, e2', e3', wq, wm, wj, sh, or1, or2, hj31, uq⟩ := HX.out
      clear HX
      refine qpw_region 14 (qpOk 14 14 (by decide) (fun N => by kernel_rfl) (by kernel_rfl) (by kernel_rfl) (by kernel_rfl) (by kernel_rfl)) (C := fun X => X = wr.drew) [some 60, some 61, some 62, some 63, some 64, some 65, some 66, some 67, some 68, some 69, some 70, some 71, some 72, some 73] [.slice (some ⟨G, 0, none⟩) mw mw, .int .i64 (s : Int), .int .i64 (q : Int), .slice (some ⟨G, 0, none⟩) mw mw, .int .i64 (s : Int), .int .i64 (q : Int), .pointer (some ⟨G, q, none⟩), .int .u32 (uI x), .int .i64 (s : Int), .int .i64 ((s : Int) % 32), .int .i64 (j : Int), .int .u32 (uI (1#32 <<< j)), .int .u32 (uI (x ||| (1#32 <<< j))), .pointer (some ⟨G, q, none⟩)] (by kernel_rfl) rfl ?walk1 ?fin1
      case walk1 =>
        refine qw_run (v := .slice (some ⟨G, 0, none⟩) mw mw) (by rfl) ?_ ?_
        · (intro w9 hC; subst hC; go_simp; first | done | (simp; done) | (simp [*]; done) | omega | (simp; omega) | (rw [IntKind.wrap_i64]; omega) | (intro hx; omega) | rfl)
        simp only [Act.put, List.setIfInBounds_toArray, List.set_cons_zero, List.set_cons_succ]
        refine qw_run (v := .int .i64 (s : Int)) (by rfl) ?_ ?_
        · (intro w9 hC; subst hC; go_simp; first | done | (simp; done) | (simp [*]; done) | omega | (simp; omega) | (rw [IntKind.wrap_i64]; omega) | (intro hx; omega) | rfl)
        simp only [Act.put, List.setIfInBounds_toArray, List.set_cons_zero, List.set_cons_succ]
        refine qw_run (v := .int .i64 (q : Int)) (by rfl) ?_ ?_
        · exact fun w9 hC => quo_row16 _ _ _ _ s q w9 rfl rfl rfl e1 uq
        simp only [Act.put, List.setIfInBounds_toArray, List.set_cons_zero, List.set_cons_succ]
        refine qw_run (v := .slice (some ⟨G, 0, none⟩) mw mw) (by rfl) ?_ ?_
        · (intro w9 hC; subst hC; go_simp; first | done | (simp; done) | (simp [*]; done) | omega | (simp; omega) | (rw [IntKind.wrap_i64]; omega) | (intro hx; omega) | rfl)
        simp only [Act.put, List.setIfInBounds_toArray, List.set_cons_zero, List.set_cons_succ]
        refine qw_run (v := .int .i64 (s : Int)) (by rfl) ?_ ?_
        · (intro w9 hC; subst hC; go_simp; first | done | (simp; done) | (simp [*]; done) | omega | (simp; omega) | (rw [IntKind.wrap_i64]; omega) | (intro hx; omega) | rfl)
        simp only [Act.put, List.setIfInBounds_toArray, List.set_cons_zero, List.set_cons_succ]
        refine qw_run (v := .int .i64 (q : Int)) (by rfl) ?_ ?_
        · exact fun w9 hC => quo_row16 _ _ _ _ s q w9 rfl rfl rfl e1 uq
        simp only [Act.put, List.setIfInBounds_toArray, List.set_cons_zero, List.set_cons_succ]
        refine qw_run (v := .pointer (some ⟨G, q, none⟩)) (by rfl) ?_ ?_
        · (intro w9 hC; subst hC; go_simp; first | done | (simp; done) | (simp [*]; done) | omega | (simp; omega) | (rw [IntKind.wrap_i64]; omega) | (intro hx; omega) | rfl)
        simp only [Act.put, List.setIfInBounds_toArray, List.set_cons_zero, List.set_cons_succ]
        refine qw_run (v := .int .u32 (uI x)) (by rfl) ?_ ?_
        · (intro w9 hC; subst hC; go_simp; first | done | (simp; done) | (simp [*]; done) | omega | (simp; omega) | (rw [IntKind.wrap_i64]; omega) | (intro hx; omega) | rfl)
        simp only [Act.put, List.setIfInBounds_toArray, List.set_cons_zero, List.set_cons_succ]
        refine qw_run (v := .int .i64 (s : Int)) (by rfl) ?_ ?_
        · (intro w9 hC; subst hC; go_simp; first | done | (simp; done) | (simp [*]; done) | omega | (simp; omega) | (rw [IntKind.wrap_i64]; omega) | (intro hx; omega) | rfl)
        simp only [Act.put, List.setIfInBounds_toArray, List.set_cons_zero, List.set_cons_succ]
        refine qw_run (v := .int .i64 ((s : Int) % 32)) (by rfl) ?_ ?_
        · (intro w9 hC; subst hC; go_simp; first | done | (simp; done) | (simp [*]; done) | omega | (simp; omega) | (rw [IntKind.wrap_i64]; omega) | (intro hx; omega) | rfl)
        simp only [Act.put, List.setIfInBounds_toArray, List.set_cons_zero, List.set_cons_succ]
        refine qw_run (v := .int .i64 (j : Int)) (by rfl) ?_ ?_
        · exact fun w9 hC => sub_row16 _ _ _ _ 31 ((s : Int) % 32) (j : Int) w9 rfl rfl rfl e2
        simp only [Act.put, List.setIfInBounds_toArray, List.set_cons_zero, List.set_cons_succ]
        refine qw_run (v := .int .u32 (uI (1#32 <<< j))) (by rfl) ?_ ?_
        · exact fun w9 hC => shl_row16 _ _ _ _ j w9 rfl rfl rfl hj31
        simp only [Act.put, List.setIfInBounds_toArray, List.set_cons_zero, List.set_cons_succ]
        refine qw_run (v := .int .u32 (uI (x ||| (1#32 <<< j)))) (by rfl) ?_ ?_
        · (intro w9 hC; subst hC; go_simp; first | done | (simp; done) | (simp [*]; done) | omega | (simp; omega) | (rw [IntKind.wrap_i64]; omega) | (intro hx; omega) | rfl)
        simp only [Act.put, List.setIfInBounds_toArray, List.set_cons_zero, List.set_cons_succ]
        refine qw_run (v := .pointer (some ⟨G, q, none⟩)) (by rfl) ?_ ?_
        · (intro w9 hC; subst hC; go_simp; first | done | (simp; done) | (simp [*]; done) | omega | (simp; omega) | (rw [IntKind.wrap_i64]; omega) | (intro hx; omega) | rfl)
        simp only [Act.put, List.setIfInBounds_toArray, List.set_cons_zero, List.set_cons_succ]
        refine qw_nil ?_
        simp only [putAll, Act.put, List.setIfInBounds_toArray, List.set_cons_zero, List.set_cons_succ]
      case fin1 =>
        intro w9 hC
        subst hC
        simp only [putAll, Act.put, List.setIfInBounds_toArray, List.set_cons_zero, List.set_cons_succ]
        dsimp only [List.drop]
        have c1 : wr.drew.cell? ⟨G, q, none⟩ = some (.int .u32 (uI x)) := c0
        have f1 : wr.drew.frozen? ⟨G, q, none⟩ = false := f0
        have o5 := (HI.out.2.1.drew.stored q (.int .u32 (uI (x ||| (1#32 <<< j))))).1
        have HO6 : Hid ((wr.drew.setCell ⟨G, q, none⟩ (.int .u32 (uI (x ||| (1#32 <<< j))))).ownsRow w.heap.size 96 1 (.slice (some ⟨G, 0, none⟩) mw mw) mw ((stM16 m s).map cU)) := hid13 (by rw [HSt.out, List.map_set]; exact o5)
        have HB6 := hid13 (HI.out.2.2.1.drew.far (o := q) (.int .u32 (uI (x ||| (1#32 <<< j)))) HG.out.1 HG.out.2)
        have HLn : Hid ((stM16 m s).length = mw) := by show _ = _; rw [stM_len]; exact HI.out.1
        clear o5 HI c0 f0 r1 a1 e1 e1' e2 e2' e3' wq wm wj sh or1 or2 hj31 uq
        go_wp2
        go_roundg (gk - 1)
        case measure => have := HJ.out; omega
        case rel => exact ⟨k + 1, stM16 m s, by have := HJ.out; omega, rfl, hid13 ⟨HLn.out, HO6.out, HB6.out, HT.out⟩⟩
    · have hm : m = R := by rw [← HI.out.2.2.2, List.drop_eq_nil_of_le (by omega)]; rfl
      have HE : Hid (RwX cU wr (.slice (some ⟨G, 0, none⟩) mw mw) R) := hid13 (by
        have h1 := HI.out.2.1
        have hl9 : R.length = mw := by rw [← hm]; exact HI.out.1
        rw [hm, ← hl9] at h1
        rw [← hl9]
        exact own_rwx h1)
      have HL5 := hid13 HI.out.2.2.1
      have a0 := at_16 HI.out.2.2.1.n 0 _ rfl
      have KE := HK2.out _ _ HE.out
      clear HI hm hk HF0 HS HK2
      go_wp2_with fail
      refine KE.mono ?_
      rintro e w5 ⟨v5, rfl, ho5, hb5⟩
      obtain ⟨o5, c5, hv5⟩ := own_form ho5
      subst hv5
      have HL6 := hid13 (HL5.out.below hb5)
      have HO5 := hid13 (own_rowA ho5)
      have h63 : C1.length + C2.length ≤ maxLen := by have := HW.out; have := HM.out; unfold maxLen; omega
      have h47 : (C1.length + C2.length) * 1 ≤ 140737488355328 := by have := HW.out; have := HM.out; omega
      have hs5 : w.heap.size + 1 ≤ w5.heap.size := by have := lt_16 HL6.out.n; omega
      clear KE ho5 hb5 HL5 HE a0 a1
      go_wp2_with (at_builtin; apply stopHere9)
      refine (show wpList _ _ _ _ _ _ from ?_)
      refine wpList_append_rowA rfl _ _ 27 rfl (w.heap.size + 1) 5 u0 (.int .u8 0) 1 1 Try.underlying27 hu hy0 hy1 hy2 rfl (by decide) _ _ _ rfl HL6.out.o (.slice o5 C2.length c5) C2.length (C2.map cB) rfl HO5.out (cB_one C2) h63 h47 hs5 ?_
      intro ao6 cap6 w6 hown6 hgrow6
      have HL7 := hid13 (HL6.out.app (x := C2) hgrow6 hown6)
      have HCl : Hid ((C1 ++ C2).length = 4 * (2 + mw + 0) ∧ (C1 ++ C2) ++ rnB P (a + 2 + mw + 0) (l.drop 0) = D) := by
        refine ⟨by rw [List.length_append, HW.out.1, HW.out.2]; omega, ?_⟩
        rw [HND.out, List.append_assoc]; rfl
      have eC : C1.length + C2.length = (C1 ++ C2).length := by rw [List.length_append]
      rw [eC] at HL7 ⊢
      generalize C1 ++ C2 = C0 at *
      clear hown6 hgrow6 HL6 HO5 h63 h47 hs5 HND HW eC
      go_wp2_with fail
      go_loopg [9, 16] l.length (fun g bv kv wr2 => ∃ (k : Nat) (od : Option Addr) (cd : Nat) (code : List Nat), k + g = l.length ∧ bv = .slice od code.length cd ∧ kv = .int .i64 (k : Int) ∧ Hid (LdW w (nb : Int) (.slice ao l.length c) (.slice od code.length cd) code wr2 ∧ code.length = 4 * (2 + mw + k) ∧ code ++ rnB P (a + 2 + mw + k) (l.drop k) = D))
      case atStart => exact ⟨0, _, _, C0, by omega, rfl, rfl, hid13 ⟨HL7.out, HCl.out⟩⟩
      case round =>
        clear HL7 HCl hlt
        obtain ⟨k, od, cd, code, hk, rfl, rfl, HI⟩ := hrel
        have a1 := at_16 HI.out.1.n 1 _ rfl
        by_cases hlt : (k : Int) < (l.length : Int)
        · have hks : k < l.length := by omega
          obtain ⟨r, hr⟩ : ∃ r, l[k]? = some r := ⟨l[k], by simp [hks]⟩
          obtain ⟨bb, off, rfl, hcell⟩ := HC.out.resolve_left (by rintro rfl; simp at hks)
          obtain ⟨-, -, r2, r3⟩ := hcell k r hr
          replace r2 := keepc HI.out.1.b r2
          replace r3 := keepc HI.out.1.b r3
          obtain ⟨hchk, hkid⟩ := HR.out k r hr
          have HT := hid13 (rnB_drop P l (a + 2 + mw) k r hr)
          have HTl : Hid (code.length = 4 * (2 + mw + k)) := HI.out.2.1
          have HTd := hid13 HI.out.2.2
          have HL8 := hid13 HI.out.1
          have mk : IntKind.i64.wrap ((k : Int) + 1) = (k : Int) + 1 := by rw [IntKind.wrap_i64]; omega
          have HJ : Hid (k + gk = l.length ∧ k < l.length) := ⟨hk, hks⟩
          obtain ⟨rf, rk, rn⟩ := r
          dsimp only at r2 r3 hkid
          clear hr hcell hk HI
          cases rk with
          | false =>
            replace hchk : chkE 4 rn [] = 0 := hchk
            have HT2 : Hid (rnB P (a + 2 + mw + k) (l.drop k) = wdB (4 : Int).toNat rn.toNat [] ++ rnB P (a + 2 + mw + (k + 1)) (l.drop (k + 1))) := HT
            have KE := fun W => renc16 4 rn (.slice none 0 0) [] W (nil_rwx16 _) hchk
            have hXl : (wdB (4 : Int).toNat rn.toNat []).length = 4 := by rw [wdB_len]; rfl
            generalize wdB (4 : Int).toNat rn.toNat [] = X at *
            have q9 := bl1 wr (.cells #[.int .i64 4, .int .i64 rn, .slice none 0 0] 67)
            have HL9 := hid13 (HL8.out.below q9)
            have a1' := keepc q9 a1
            have r2' := keepc q9 r2
            clear HT hkid hchk q9 HL8
            go_wp2_with fail
            refine (KE _).mono ?_
            rintro e w7 ⟨v7, rfl, ho7, hb7⟩
            obtain ⟨o7, c7, hv7⟩ := own_form ho7
            subst hv7
            have HLa := hid13 (HL9.out.below hb7)
            have HO7 := hid13 (own_rowA ho7)
            have h63 : code.length + X.length ≤ maxLen := by have := HTl.out; have := HM.out; have := HJ.out; unfold maxLen; omega
            have h47 : (code.length + X.length) * 1 ≤ 140737488355328 := by have := HTl.out; have := HM.out; have := HJ.out; omega
            have hs7 : w.heap.size + 1 ≤ w7.heap.size := by have := lt_16 HLa.out.n; omega
            have HXl := hid13 hXl
            clear KE ho7 hb7 HL9 r2 r3 a1 hXl a1' r2'
            go_wp2_with (at_builtin; apply stopHere9)
            refine (show wpList _ _ _ _ _ _ from ?_)
            refine wpList_append_rowA rfl _ _ 27 rfl (w.heap.size + 1) 5 u0 (.int .u8 0) 1 1 Try.underlying27 hu hy0 hy1 hy2 rfl (by decide) _ _ _ rfl HLa.out.o (.slice o7 X.length c7) X.length (X.map cB) rfl HO7.out (cB_one X) h63 h47 hs7 ?_
            intro ao8 cap8 w8 hown8 hgrow8
            have HLb := hid13 (HLa.out.app (x := X) hgrow8 hown8)
            have HCl : Hid ((code ++ X).length = 4 * (2 + mw + (k + 1)) ∧ (code ++ X) ++ rnB P (a + 2 + mw + (k + 1)) (l.drop (k + 1)) = D) := by
              refine ⟨by rw [List.length_append, HTl.out, HXl.out]; omega, ?_⟩
              rw [← HTd.out, HT2.out, List.append_assoc]
            have eC : code.length + X.length = (code ++ X).length := by rw [List.length_append]
            rw [eC] at HLb ⊢
            generalize code ++ X = C0 at *
            clear hown8 hgrow8 HLa HO7 h63 h47 hs7 HTd HT2 HTl HXl eC
            go_wp2
            go_roundg (gk - 1)
            case measure => have := HJ.out; omega
            case rel => exact ⟨k + 1, _, _, C0, by have := HJ.out; omega, rfl, rfl, hid13 ⟨HLb.out, HCl.out⟩⟩
          | true =>
            obtain ⟨q, y, hq, hPq, hy1', hy2'⟩ := hkid rfl
            subst hq
            obtain ⟨T, hTd⟩ : ∃ T, T = 2 + mw + k := ⟨_, rfl⟩
            have hgd : P.getD q 0 = y := by rw [List.getD_eq_getElem?_getD, hPq]; rfl
            obtain ⟨N, hN⟩ : ∃ N : Int, N = rnI P (a + 2 + mw + k) ⟨rf, true, (q : Int)⟩ := ⟨_, rfl⟩
            have hNe : N = y - (a : Int) - (T : Int) := by
              rw [hN, hTd]
              show P.getD (q : Int).toNat 0 - ((a + 2 + mw + k : Nat) : Int) = _
              rw [Int.toNat_natCast, hgd]
              omega
            rw [← hN] at hchk HT
            replace hchk : chkE 3 N [] = 0 := hchk
            have HT2 : Hid (rnB P (a + 2 + mw + k) (l.drop k) = wdB (3 : Int).toNat N.toNat [] ++ rnB P (a + 2 + mw + (k + 1)) (l.drop (k + 1))) := HT
            have KE := fun W => renc16 3 N (.slice none 0 0) [] W (nil_rwx16 _) hchk
            have hXl : (wdB (3 : Int).toNat N.toNat []).length = 4 := by rw [wdB_len]; rfl
            generalize wdB (3 : Int).toNat N.toNat [] = X at *
            obtain ⟨pb, pof, rfl, hpc⟩ := HP.out.resolve_left (by rintro rfl; simp at hPq)
            have hpy : w.cell? ⟨pb, pof + q, none⟩ = some (.int .i64 y) := hpc q y hPq
            have hqi : (q : Int) < (P.length : Int) := by have := (List.getElem?_eq_some_iff.mp hPq).1; omega
            obtain ⟨ya, hya⟩ : ∃ ya, ya = y - (a : Int) := ⟨_, rfl⟩
            have m1 : IntKind.i64.wrap (y - (a : Int)) = ya := by rw [IntKind.wrap_i64]; have := HAo.out; omega
            have m2 : IntKind.i64.wrap (ya - (T : Int)) = N := by rw [IntKind.wrap_i64]; have := HAo.out; have := HM.out; have := HJ.out; omega
            have m3 : ((code.length : Nat) : Int) / 4 = (T : Int) := by have := HTl.out; omega
            have m4 : IntKind.i64.wrap (T : Int) = (T : Int) := by rw [IntKind.wrap_i64]; have := HM.out; have := HJ.out; have := HAo.out; omega
            have q9 := bl1 wr (.cells #[.int .i64 4, .int .i64 (q : Int), .slice none 0 0] 67)
            have HL9 := hid13 (HL8.out.below q9)
            have a1' := keepc q9 a1
            have r2' := keepc q9 r2
            have r3' := keepc q9 r3
            have p0 := keepc HL9.out.b hpy
            replace HL9 := hid13 (HL8.out.below (bl1 wr (.cells #[.int .i64 3, .int .i64 N, .slice none 0 0] 67)))
            clear HT hchk q9 hN hNe hya hgd hPq hpc hpy hy1' hy2' hkid hTd
            go_wp2_with fail
            refine (KE _).mono ?_
            rintro e w7 ⟨v7, rfl, ho7, hb7⟩
            obtain ⟨o7, c7, hv7⟩ := own_form ho7
            subst hv7
            have HLa := hid13 (HL9.out.below hb7)
            have HO7 := hid13 (own_rowA ho7)
            have h63 : code.length + X.length ≤ maxLen := by have := HTl.out; have := HM.out; have := HJ.out; unfold maxLen; omega
            have h47 : (code.length + X.length) * 1 ≤ 140737488355328 := by have := HTl.out; have := HM.out; have := HJ.out; omega
            have hs7 : w.heap.size + 1 ≤ w7.heap.size := by have := lt_16 HLa.out.n; omega
            have HXl := hid13 hXl
            clear KE ho7 hb7 HL9 r2 r3 a1 hXl a1' r2' r3' p0 m1 m2 m3 m4
            go_wp2_with (at_builtin; apply stopHere9)
            refine (show wpList _ _ _ _ _ _ from ?_)
            refine wpList_append_rowA rfl _ _ 27 rfl (w.heap.size + 1) 5 u0 (.int .u8 0) 1 1 Try.underlying27 hu hy0 hy1 hy2 rfl (by decide) _ _ _ rfl HLa.out.o (.slice o7 X.length c7) X.length (X.map cB) rfl HO7.out (cB_one X) h63 h47 hs7 ?_
            intro ao8 cap8 w8 hown8 hgrow8
            have HLb := hid13 (HLa.out.app (x := X) hgrow8 hown8)
            have HCl : Hid ((code ++ X).length = 4 * (2 + mw + (k + 1)) ∧ (code ++ X) ++ rnB P (a + 2 + mw + (k + 1)) (l.drop (k + 1)) = D) := by
              refine ⟨by rw [List.length_append, HTl.out, HXl.out]; omega, ?_⟩
              rw [← HTd.out, HT2.out, List.append_assoc]
            have eC : code.length + X.length = (code ++ X).length := by rw [List.length_append]
            rw [eC] at HLb ⊢
            generalize code ++ X = C0 at *
            clear hown8 hgrow8 HLa HO7 h63 h47 hs7 HTd HT2 HTl HXl eC
            go_wp2
            go_roundg (gk - 1)
            case measure => have := HJ.out; omega
            case rel => exact ⟨k + 1, _, _, C0, by have := HJ.out; omega, rfl, rfl, hid13 ⟨HLb.out, HCl.out⟩⟩
        · have HFo := hid13 (own_base16 (base' := w.heap.size) HI.out.1.o (by omega))
          have HFb := hid13 HI.out.1.b
          have HFd : Hid (code = D) := by
            have h := HI.out.2.2
            rw [List.drop_eq_nil_of_le (by omega)] at h
            show _ = _
            rw [← h]
            show code = code ++ []
            rw [List.append_nil]
          clear HI hk
          go_wp2
          go_ret
          exact ⟨_, rfl, by rw [← HFd.out]; exact HFo.out, HFb.out⟩
end Go.Proofs.Ytdpmhpmnkollaaa
