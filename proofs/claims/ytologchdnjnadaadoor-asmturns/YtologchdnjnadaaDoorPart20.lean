/-
  Part 20 of the proof: 1 texts, one behind the other.
-/
import Derived.Test.YtologchdnjnadaaDoorPart14
import Derived.Test.YtologchdnjnadaaDoorPart18
import Derived.Test.YtologchdnjnadaaDoorPart19
import Derived.Lib.AppendStr
/-
  The document's Print.
-/
namespace Go.Proofs.YtologchdnjnadaaDoor
open Go.RowKit
set_option linter.unusedSimpArgs false
set_option linter.unusedVariables false

theorem decF_dec : ∀ (f m : Nat) (t : List UInt8), m < 10 ^ f → (t = [] → 1 ≤ f) → decF15 f m t = if m = 0 ∧ t ≠ [] then t else Lib.decDigits m ++ t
  | 0, m, t, h, h0 => by
    have hm : m = 0 := by simpa using h
    have ht : t ≠ [] := fun e => by have := h0 e; omega
    rw [if_pos ⟨hm, ht⟩]; rfl
  | f + 1, m, t, h, h0 => by
    by_cases q : m = 0 ∧ t ≠ []
    · rw [if_pos q]; exact decF_zero15 _ _ _ q
    · rw [if_neg q]
      show (if m = 0 ∧ ¬ t = [] then t else decF15 f (m / 10) (UInt8.ofNat (48 + m % 10) :: t)) = _
      rw [if_neg q, decF_dec f (m / 10) _ (by rw [Nat.pow_succ] at h; omega) (by simp)]
      by_cases h10 : m < 10
      · rw [if_pos ⟨by omega, by simp⟩, Lib.decDigits_one h10, Nat.mod_eq_of_lt h10]; rfl
      · rw [if_neg (by intro h; have := h.1; omega)]
        have e : Lib.decDigits m = Lib.decDigits (m / 10) ++ [UInt8.ofNat (48 + m % 10)] := by rw [Lib.decDigits, dif_neg h10]
        rw [e]; simp
theorem decL_dec (n : Nat) (h : n ≤ 16777215) : decL15 n = Lib.decDigits n := by
  unfold decL15
  rw [decF_dec 20 n [] (by have : 10 ^ 20 = 100000000000000000000 := by decide
                           omega) (by intro _; decide), if_neg (by simp), List.append_nil]
/-- The memory of the document's Print: what is written, the instruction, its map. -/
structure RpM (w : World) (I B : Nat) (O N : Int) (v x : Value) (M : List (BitVec 32)) (T : List UInt8) (W : World) : Prop where
  r : W.ownsRow w.heap.size 5 1 x T.length (Lib.byteCells T)
  i : W.heap[I]? = some (.cells #[.int .i64 O, .int .i64 N, v] 45)
  m : W.ownsRow B 48 1 v M.length (M.map cU)
  b : Below w.heap.size w W
section
variable {w W W' : World} {I B : Nat} {O N : Int} {v x x' : Value} {M : List (BitVec 32)} {T : List UInt8}
theorem RpM.below (h : RpM w I B O N v x M T W) (hb : Below W.heap.size W W') : RpM w I B O N v x M T W' :=
  ⟨own_b13 hb h.r, by rw [hb.block _ (lt_b15 h.i)]; exact h.i, own_b13 hb h.m, keepb hb h.b⟩
theorem RpM.c (h : RpM w I B O N v x M T W) : W.cell? ⟨I, 0, none⟩ = some (.int .i64 O) ∧ W.cell? ⟨I, 1, none⟩ = some (.int .i64 N) ∧ W.cell? ⟨I, 2, none⟩ = some v := ⟨at_b15 h.i 0 _ rfl, at_b15 h.i 1 _ rfl, at_b15 h.i 2 _ rfl⟩
theorem RpM.app (h : RpM w I B O N v x M T W) {S : List UInt8} (hg : W.grownBy W' x.ownBlock) (ho : W'.ownsRow w.heap.size 5 1 x' (T ++ S).length (Lib.byteCells (T ++ S))) : RpM w I B O N v x' M (T ++ S) W' := by
  have hxI : x.ownBlock ≠ some I := Lib.ownBlock_ne h.r h.i (by decide)
  refine ⟨ho, by rw [hg.block _ (lt_b15 h.i) (fun e => hxI e.symm)]; exact h.i, h.m.kept hg ?_, h.b.grown hg h.b.size (fun z e => (h.r.lt z e).1)⟩
  cases hq : v.ownBlock with
  | none => exact .inl rfl
  | some g =>
    right
    obtain ⟨c, fz, hc⟩ := own_isrow h.m hq
    exact fun e => (Lib.ownBlock_ne h.r hc (by decide)) e.symm
end
def vN15 (n : Nat) (j : Nat) : Value := .slice (some ⟨(decN j).1, 0, none⟩) n (decN j).2
theorem bc_len (T : List UInt8) : (Lib.byteCells T).length = T.length := by simp [Lib.byteCells]
theorem bc_app (T S : List UInt8) : Lib.byteCells (T ++ S) = Lib.byteCells T ++ Lib.byteCells S := by simp [Lib.byteCells]
theorem bc_str (s : ByteArray) : Lib.strCells s = Lib.byteCells s.data.toList := rfl
theorem conv15 {W : World} {base : Nat} {v : Value} {T : List UInt8} (h : W.ownsRow base 5 1 v T.length (Lib.byteCells T)) : (convert 22 9 v).run Tryd.prog W = .ok (.string ⟨T.toArray⟩) W := by
  have e1 : (T.map UInt8.toNat).map cB = Lib.byteCells T := by unfold Lib.byteCells cB; rw [List.map_map]; rfl
  have h2 : W.ownsRow base 5 1 v (T.map UInt8.toNat).length ((T.map UInt8.toNat).map cB) := by rw [e1, List.length_map]; exact h
  have h3 := conv13 (own_rwx h2) (by intro b hb; obtain ⟨a, -, rfl⟩ := List.mem_map.1 hb; exact a.toNat_lt)
  rw [h3]
  have e2 : bsA (T.map UInt8.toNat) = ⟨T.toArray⟩ := by
    unfold bsA
    rw [List.map_map]
    have : T.map (UInt8.ofNat ∘ UInt8.toNat) = T := by
      conv => rhs; rw [← List.map_id T]
      apply List.map_congr_left
      intro a _
      simp
    rw [this]
  rw [e2]
set_option maxRecDepth 20000 in
set_option maxHeartbeats 16000000 in
theorem rdprint_any (v : Value) (l : List Nat) (w : World) (hv : RwX cB w v l) (hl : l.length ≤ 100000) (hx : ∀ b ∈ l, b < 256) :
    Calls Tryd.prog 10 #[v] w fun e w' => e = .returned (.tuple #[.string ⟨(prT l).toArray⟩, .int .i64 (prE l)]) ∧ Below w.heap.size w w' := by
  obtain ⟨i0, hi, hz0, hz1, hz2⟩ := info13 Tryd.infoB13
  obtain ⟨ao, cp, rfl, -⟩ := id hv
  have m0 : ((l.length : Nat) : Int).tmod 4 = ((l.length % 4 : Nat) : Int) := by rw [Int.tmod_eq_emod_of_nonneg (by omega)]; omega
  by_cases h4 : l.length % 4 = 0
  · have hT : prT l = prL l (l.length / 4 + 1) 0 := by unfold prT; rw [if_pos h4]
    have hE : prE l = 0 := by unfold prE; rw [if_pos h4]
    rw [hE]
    rw [h4] at m0
    obtain ⟨Q, hQ⟩ : ∃ Q, Q = l.length / 4 := ⟨_, rfl⟩
    have m1 : ((l.length : Nat) : Int).tdiv 4 = (Q : Int) := by rw [Int.tdiv_eq_ediv_of_nonneg (by omega)]; omega
    have m1' : ((l.length : Nat) : Int) / 4 = (Q : Int) := by omega
    have m0' : ((l.length : Nat) : Int) % 4 = 0 := by omega
    have mQ : wrap64 (Q : Int) = (Q : Int) := by unfold wrap64; omega
    have HS0 : Hid (w.ownsRow w.heap.size 5 1 (.slice none 0 0) ([] : List UInt8).length (Lib.byteCells []) ∧ Below w.heap.size w w ∧ [] ++ prL l (Q + 1) 0 = prT l) := hid13 ⟨World.ownsRow_nil _ _ _ _, Below.refl _ _, by rw [hT, hQ]; rfl⟩
    have HQ : Hid (Q = l.length / 4 ∧ l.length ≤ 100000) := ⟨hQ, hl⟩
    have HV := hid13 hv
    have HX := hid13 hx
    clear hv hl hx h4 hT hE hQ
    go_enter Tryd.func10, Tryd.ntmps10
    go_wp2
    go_loopg [4, 5] (Q + 1) (fun g x4 x5 wr => ∃ (k : Nat) (T : List UInt8), x5 = .int .i64 (k : Int) ∧ Hid (wr.ownsRow w.heap.size 5 1 x4 T.length (Lib.byteCells T) ∧ Below w.heap.size w wr ∧ T ++ prL l g k = prT l ∧ Q - k < g ∧ k ≤ Q ∧ T.length ≤ 130 * k))
    case atStart => exact ⟨0, [], rfl, hid13 ⟨HS0.out.1, HS0.out.2.1, HS0.out.2.2, by omega, by omega, by simp⟩⟩
    case round =>
      clear HS0
      obtain ⟨k, T, rfl, HS⟩ := hrel
      obtain ⟨f, rfl⟩ : ∃ f, gk = f + 1 := ⟨gk - 1, by have := HS.out.2.2.2.1; omega⟩
      obtain ⟨xo, xc, hxf⟩ := own_form HS.out.1
      subst hxf
      by_cases hlt : k < Q
      · have hli : (k : Int) < (Q : Int) := by omega
        have hkq : k < l.length / 4 := by have := HQ.out; omega
        have hz := lnZ_le l k HX.out hkq
        have hln := lnT_len l k HX.out
        have hpr : prL l (f + 1) k = lnT l k ++ prL l f (k + lnZ l k) := by
          show (if k < l.length / 4 then _ else _) = _
          rw [if_pos hkq]
        have HPr := hid13 hpr
        have HZ : Hid (1 ≤ lnZ l k ∧ k + lnZ l k ≤ Q ∧ (lnT l k).length ≤ 130 * lnZ l k ∧ k < Q) := ⟨hz.1, by have := HQ.out; omega, hln, hlt⟩
        have KD := rdecode14 (.slice ao l.length cp) l (k : Int) wr (HV.out.below HS.out.2.1) HQ.out.2 HX.out
        clear hz hln hpr hlt
        by_cases he : dcE l (k : Int) = 0
        · obtain ⟨h1, h2, h3⟩ := enc_dec l (k : Int) HX.out he
          obtain ⟨h4, h5, h6⟩ := chk_zero h1
          have hT : lnT l k = nmL (dcI l k).op.toNat ++ [32] ++ Lib.decDigits (dcI l k).n.toNat ++ wdsL (dcI l k).m ++ [10] := by unfold lnT; rw [if_pos he]
          have hZ : ((lnZ l k : Nat) : Int) = dcZ l (k : Int) := by unfold lnZ dcZ; rw [if_pos he, if_pos he]; omega
          rw [he, ← hZ] at KD
          clear h1 h2 h3 hZ he
          generalize dcI l (k : Int) = ins at *
          obtain ⟨o', n', M⟩ := ins
          simp only at h4 h5 h6 KD hT
          obtain ⟨O, rfl⟩ : ∃ O : Nat, o' = (O : Int) := ⟨o'.toNat, by omega⟩
          obtain ⟨N, rfl⟩ : ∃ N : Nat, n' = (N : Int) := ⟨n'.toNat, by omega⟩
          simp only [Int.toNat_natCast, insV] at KD hT
          have HT := hid13 hT
          generalize lnZ l k = z at *
          have mz : IntKind.i64.wrap ((k : Int) + (z : Int)) = (k : Int) + (z : Int) := by rw [IntKind.wrap_i64]; have := HZ.out; have := HQ.out; omega
          have KNm := fun W => rdname_any O (by omega) (by omega) W
          have KDc := fun W => rdec15_any N W (by omega)
          rw [decL_dec N (by omega)] at KDc
          have hdl := decD_len N (by omega)
          obtain ⟨SN, hSN⟩ : ∃ SN : ByteArray, nmS O = SN := ⟨_, rfl⟩
          have hSNl : SN.data.toList = nmL O := by rw [← hSN]; rfl
          have hSNs : SN.size ≤ 10 := by rw [← hSN]; exact nmS_size O (by omega)
          rw [hSN] at KNm
          obtain ⟨DD, hDD⟩ : ∃ DD : ByteArray, (⟨(Lib.decDigits N).toArray⟩ : ByteArray) = DD := ⟨_, rfl⟩
          have hDDl : DD.data.toList = Lib.decDigits N := by rw [← hDD]
          have hDDs : DD.size ≤ 100 := by show DD.data.size ≤ 100; rw [← Array.length_toList, hDDl]; exact hdl
          rw [hDD] at KDc
          obtain ⟨S1, hS1⟩ : ∃ S1 : ByteArray, SN ++ (⟨#[32]⟩ : ByteArray) = S1 := ⟨_, rfl⟩
          have hS1s : S1.size ≤ 11 := by rw [← hS1, ByteArray.size_append]; have : (⟨#[32]⟩ : ByteArray).size = 1 := rfl; omega
          obtain ⟨S2, hS2⟩ : ∃ S2 : ByteArray, S1 ++ DD = S2 := ⟨_, rfl⟩
          have hS2s : S2.size ≤ 111 := by rw [← hS2, ByteArray.size_append]; omega
          have HSL : Hid (S2.data.toList = nmL O ++ [32] ++ Lib.decDigits N) := hid13 (by
            rw [← hS2, ← hS1]
            simp only [ByteArray.data_append, Array.toList_append, hSNl, hDDl])
          have hs9a : ¬ 9223372036854775807 < SN.size + 1 := by omega
          have hs9b : ¬ 9223372036854775807 < S1.size + DD.size := by omega
          have HSZ2 := hid13 hS2s
          have HML : Hid (M.length ≤ 524288) := hid13 h6
          have HTL : Hid (T.length ≤ 130 * k ∧ k < Q ∧ Q ≤ 25000) := hid13 ⟨HS.out.2.2.2.2.2, HZ.out.2.2.2, by have := HQ.out; omega⟩
          clear h4 h5 h6 hT hdl hSN hSNl hDD hDDl hkq hS2s hS1s hSNs hDDs
          go_wp2_with fail
          refine KD.mono ?_
          rintro e w1 ⟨v', rfl, ho, hb1⟩
          have q2 := bl1 w1 (.cells #[.int .i64 (O : Int), .int .i64 (N : Int), v'] 45)
          have HM : Hid (RpM w w1.heap.size wr.heap.size O N v' (.slice xo T.length xc) M T (w1.alloc (.cells #[.int .i64 (O : Int), .int .i64 (N : Int), v'] 45))) := hid13 ⟨own_b13 (keepb q2 hb1) HS.out.1, Array.getElem?_push_size, own_b13 q2 ho, keepb (keepb q2 hb1) HS.out.2.1⟩
          obtain ⟨mo, mc, hvf'⟩ := own_form ho
          subst hvf'
          clear KD ho hb1 q2
          go_wp2_with fail
          have HC0 := hid13 (HM.out.below (below_drewN (Below.refl _ _) 1))
          refine cl_region 10 9 (alOk (qpOk 10 9 (by decide) (fun N => by kernel_rfl) (by kernel_rfl) (by kernel_rfl) (by kernel_rfl) (by kernel_rfl)) (by decide) rfl rfl (by kernel_rfl)) (D := fun X => RpM w w1.heap.size wr.heap.size O N (.slice mo M.length mc) (.slice xo T.length xc) M T X) (C1 := fun j X => RpM w w1.heap.size wr.heap.size O N (.slice mo M.length mc) (vN15 (T.length + S2.size) j) M (T ++ (nmL O ++ [32] ++ Lib.decDigits N)) X) [some 45, some 46, some 47, some 48, some 49, some 50, some 51, some 52, some 53, some 54] (fun j => [.slice xo T.length xc, .pointer (some ⟨w1.heap.size, 0, none⟩), .int .i64 (O : Int), .string SN, .string S1, .pointer (some ⟨w1.heap.size, 1, none⟩), .int .i64 (N : Int), .string DD, .string S2, vN15 (T.length + S2.size) j]) (vN15 (T.length + S2.size)) 54 [45, 53] (by kernel_rfl) rfl ?hA ?hrd ?hal HC0.out ?walk ?fin
          case hA => intro j; simp only [putAll, Act.put, List.setIfInBounds_toArray, List.set_cons_zero, List.set_cons_succ]; rfl
          case hrd => kernel_rfl
          case hal =>
            intro W5 a' hC hr K Q' hK
            have e45 : a'.tmps[45]? = some (.slice xo T.length xc) := (hr 45 (by simp)).trans (by simp only [putAll, Act.put, List.setIfInBounds_toArray, List.set_cons_zero, List.set_cons_succ]; rfl)
            have e53 : a'.tmps[53]? = some (.string S2) := (hr 53 (by simp)).trans (by simp only [putAll, Act.put, List.setIfInBounds_toArray, List.set_cons_zero, List.set_cons_succ]; rfl)
            clear hr
            obtain ⟨v6, W6, hrun, hown6, hgrow6, -⟩ := Lib.run_append_own_string (P := Tryd.prog) W5 w.heap.size 22 9 22 5 i0 Tryd.underlying22 Tryd.underlying9 hi hz0 hz1 hz2 _ _ _ hC.r S2 (by unfold maxLen; have := HTL.out; have := HSZ2.out; omega) (by have := HTL.out; have := HSZ2.out; omega) hC.b.size
            obtain ⟨g6, cap6, hv6⟩ : ∃ g cap, v6 = .slice (some ⟨g, 0, none⟩) (T.length + S2.size) cap := by
              rcases hown6.2 with ⟨_, h0⟩ | ⟨g, cap, cur, hv, _⟩
              · exfalso
                have : S2.size = (nmL O ++ [32] ++ Lib.decDigits N).length := by rw [← HSL.out]; rfl
                simp at this
                omega
              · exact ⟨g, cap, hv⟩
            obtain ⟨j, hj⟩ := decN_all (g6 + cap6) g6 cap6 rfl
            have hvj : v6 = vN15 (T.length + S2.size) j := by unfold vN15; rw [hj, hv6]
            have hs : a'.eval (.tmp 45) = .slice xo T.length xc := by simp [Act.eval, Array.getD_eq_getD_getElem?, e45]
            have hx9 : a'.eval (.tmp 53) = .string S2 := by simp [Act.eval, Array.getD_eq_getD_getElem?, e53]
            unfold Oper.wp execOp
            simp only [resolve, invoke, builtin, Sem.run_bind, Sem.run_pure, Result.andThen_ok, List.map_toArray, List.map_cons, List.map_nil, hs, hx9, hrun]
            rw [hvj]
            refine hK j W6 (hC.app hgrow6 ?_)
            rw [bc_str, HSL.out] at hown6
            have : S2.size = (nmL O ++ [32] ++ Lib.decDigits N).length := by rw [← HSL.out]; rfl
            rw [List.length_append, bc_app, ← this, ← hvj]; exact hown6
          case walk =>
            intro j X hX
            have hXc : ∀ W, X W → W.cell? ⟨w1.heap.size, 0, none⟩ = some (.int .i64 (O : Int)) ∧ W.cell? ⟨w1.heap.size, 1, none⟩ = some (.int .i64 (N : Int)) := by
              rcases hX with rfl | rfl
              · exact fun W h => ⟨h.c.1, h.c.2.1⟩
              · exact fun W h => ⟨h.c.1, h.c.2.1⟩
            have hXb : ∀ W W', X W → Below W.heap.size W W' → X W' := by
              rcases hX with rfl | rfl
              · exact fun W W' h hb => RpM.below h hb
              · exact fun W W' h hb => RpM.below h hb
            clear hX HC0
            dsimp only [rep, List.take, List.modify, List.modifyTailIdx, List.modifyTailIdx.go, List.modifyHead]
            refine q_run (v := .slice xo T.length xc) (by rfl) ?_ ?_
            · (intro w9 hC; clear hC; go_simp; first | done | (simp; done) | (simp [*]; done) | omega | (simp; omega) | rfl)
            simp only [Act.put, List.setIfInBounds_toArray, List.set_cons_zero, List.set_cons_succ]
            refine q_run (v := .pointer (some ⟨w1.heap.size, 0, none⟩)) (by rfl) ?_ ?_
            · (intro w9 hC; clear hC; go_simp; first | done | (simp; done) | (simp [*]; done) | omega | (simp; omega) | rfl)
            simp only [Act.put, List.setIfInBounds_toArray, List.set_cons_zero, List.set_cons_succ]
            refine q_run (v := .int .i64 (O : Int)) (by rfl) ?_ ?_
            · (intro w9 hC; have c0 := (hXc w9 hC).1; clear hC; go_simp; first | done | (simp; done) | (simp [*]; done) | omega | (simp; omega) | rfl)
            simp only [Act.put, List.setIfInBounds_toArray, List.set_cons_zero, List.set_cons_succ]
            refine q_call (v := .string SN) (f := 19) (args := #[.int .i64 (O : Int)]) (by rfl) ?_ ?_ ?_
            · (intro w9 hC; clear hC; go_simp; first | done | (simp; done) | (simp [*]; done) | omega | (simp; omega) | rfl)
            · exact fun w9 hC => (KNm w9).mono fun e w' ⟨he, hw⟩ => ⟨he, by rw [hw]; exact hC⟩
            simp only [Act.put, List.setIfInBounds_toArray, List.set_cons_zero, List.set_cons_succ]
            refine q_run (v := .string S1) (by rfl) ?_ ?_
            · (intro w9 hC; clear hC; go_simp; first | done | (simp; done) | (simp [*]; done) | omega | (simp; omega) | rfl)
            simp only [Act.put, List.setIfInBounds_toArray, List.set_cons_zero, List.set_cons_succ]
            refine q_run (v := .pointer (some ⟨w1.heap.size, 1, none⟩)) (by rfl) ?_ ?_
            · (intro w9 hC; clear hC; go_simp; first | done | (simp; done) | (simp [*]; done) | omega | (simp; omega) | rfl)
            simp only [Act.put, List.setIfInBounds_toArray, List.set_cons_zero, List.set_cons_succ]
            refine q_run (v := .int .i64 (N : Int)) (by rfl) ?_ ?_
            · (intro w9 hC; have c0 := (hXc w9 hC).2; clear hC; go_simp; first | done | (simp; done) | (simp [*]; done) | omega | (simp; omega) | rfl)
            simp only [Act.put, List.setIfInBounds_toArray, List.set_cons_zero, List.set_cons_succ]
            refine q_call (v := .string DD) (f := 20) (args := #[.int .i64 (N : Int)]) (by rfl) ?_ ?_ ?_
            · (intro w9 hC; clear hC; go_simp; first | done | (simp; done) | (simp [*]; done) | omega | (simp; omega) | rfl)
            · exact fun w9 hC => (KDc w9).mono fun e w' ⟨he, hb⟩ => ⟨he, hXb _ _ hC hb⟩
            simp only [Act.put, List.setIfInBounds_toArray, List.set_cons_zero, List.set_cons_succ]
            refine q_run (v := .string S2) (by rfl) ?_ ?_
            · (intro w9 hC; clear hC; go_simp; first | done | (simp; done) | (simp [*]; done) | omega | (simp; omega) | rfl)
            simp only [Act.put, List.setIfInBounds_toArray, List.set_cons_zero, List.set_cons_succ]
            refine q_run (v := vN15 (T.length + S2.size) j) (by rfl) ?_ ?_
            · (intro w9 hC; clear hC; go_simp; first | done | (simp; done) | (simp [*]; done) | omega | (simp; omega) | rfl)
            simp only [Act.put, List.setIfInBounds_toArray, List.set_cons_zero, List.set_cons_succ]
            refine wpQuiet_nil ?_
            simp only [putAll, Act.put, List.setIfInBounds_toArray, List.set_cons_zero, List.set_cons_succ]
          case fin =>
            intro j W6 hC
            simp only [putAll, Act.put, List.setIfInBounds_toArray, List.set_cons_zero, List.set_cons_succ]
            dsimp only [List.drop]
            have HM6 := hid13 hC
            clear hC HC0 HM
            generalize vN15 (T.length + S2.size) j = v6 at *
            have HTP : Hid ((T ++ (nmL O ++ [32] ++ Lib.decDigits N)).length ≤ 130 * k + 111) := hid13 (by
              have : S2.size = (nmL O ++ [32] ++ Lib.decDigits N).length := by rw [← HSL.out]; rfl
              rw [List.length_append, ← this]; have := HTL.out; have := HSZ2.out; omega)
            clear hs9a hs9b hS1 hS2 KNm KDc
            obtain ⟨TP, hTP⟩ : ∃ TP, TP = T ++ (nmL O ++ [32] ++ Lib.decDigits N) := ⟨_, rfl⟩
            rw [← hTP] at HM6 HTP
            have HEQ : Hid (T ++ lnT l k = TP ++ wdsL M ++ [10]) := hid13 (by rw [HT.out, hTP]; simp)
            clear hTP
            obtain ⟨yo, yc, hyf⟩ := own_form HM6.out.r
            subst hyf
            go_wp2_with fail
            go_loopg [4, 11] M.length (fun g x4 x11 W => ∃ j : Nat, j + g = M.length ∧ x11 = .int .i64 (j : Int) ∧ Hid (RpM w w1.heap.size wr.heap.size O N (.slice mo M.length mc) x4 M (TP ++ wdsL (M.take j)) W))
            case atStart => exact ⟨0, by omega, rfl, hid13 (by rw [List.take_zero]; show RpM _ _ _ _ _ _ _ _ (TP ++ []) _; rw [List.append_nil]; exact HM6.out)⟩
            case round =>
              clear HM6
              obtain ⟨j, hj, rfl, HM7⟩ := hrel
              obtain ⟨Z, hZd⟩ : ∃ Z, Z = TP ++ wdsL (M.take j) := ⟨_, rfl⟩
              rw [← hZd] at HM7
              obtain ⟨xo7, xc7, hxf7⟩ := own_form HM7.out.r
              subst hxf7
              have HZl : Hid (Z.length ≤ 130 * k + 111 + 9 * M.length) := hid13 (by rw [hZd, List.length_append, wdsL_len, List.length_take]; have := HTP.out; omega)
              have c2 := HM7.out.c.2.2
              by_cases hlt : j < M.length
              · have hli2 : (j : Int) < (M.length : Int) := by omega
                obtain ⟨x, hxm⟩ : ∃ x, x = M[j] := ⟨_, rfl⟩
                obtain ⟨g9, off, e9, hcell⟩ : ∃ g off, mo = some ⟨g, off, none⟩ ∧ wr.cell? ⟨g, off + j, none⟩ = some (.int .u32 (uI x)) := by
                  obtain ⟨ao', cp', e, hc, hq⟩ := own_rwx (l := M) (f := cU) HM7.out.m
                  injection e with e1 e2 e3
                  rcases hq with hq | ⟨g, off, e4, hq⟩
                  · subst hq; simp at hlt
                  · exact ⟨g, off, by rw [e1, e4], hq j x (by rw [hxm]; simp [hlt])⟩
                subst e9
                have KH := rdhex_any x wr
                obtain ⟨H, hH⟩ : ∃ H : ByteArray, (⟨(hexL x).toArray⟩ : ByteArray) = H := ⟨_, rfl⟩
                have hHl : H.data.toList = hexL x := by rw [← hH]
                have hH8 : H.size = 8 := by show H.data.size = 8; rw [← Array.length_toList, hHl]; unfold hexL; exact hexN_len _ _
                rw [hH] at KH
                obtain ⟨S3, hS3⟩ : ∃ S3 : ByteArray, (⟨#[32]⟩ : ByteArray) ++ H = S3 := ⟨_, rfl⟩
                have hS3s : S3.size = 9 := by rw [← hS3, ByteArray.size_append, hH8]; rfl
                have HS3 : Hid (Z ++ S3.data.toList = TP ++ wdsL (M.take (j + 1))) := hid13 (by
                  rw [hZd, List.take_succ_eq_append_getElem hlt, ← hxm, wdsL_snoc, ← hS3]
                  simp only [ByteArray.data_append, Array.toList_append, hHl]
                  simp)
                have mj : IntKind.i64.wrap ((j : Int) + 1) = (j : Int) + 1 := by rw [IntKind.wrap_i64]; have := HML.out; omega
                have HJ : Hid (j + gk = M.length ∧ j < M.length) := ⟨hj, hlt⟩
                clear hxm hH hHl hj hlt hZd
                go_wp2_with fail
                refine KH.mono ?_
                rintro e W8 ⟨rfl, hb8⟩
                have HM8 := hid13 (HM7.out.below hb8)
                clear KH hb8 HM7 hcell c2
                go_wp2_with (at_builtin; apply stopHere9)
                refine (show wpList _ _ _ _ _ _ from ?_)
                refine Lib.wpList_append_own_string _ rfl _ _ 22 9 rfl w.heap.size 5 i0 Tryd.underlying22 Tryd.underlying9 hi hz0 hz1 hz2 _ _ _ rfl HM8.out.r S3 rfl ?c3b ?c4b ?c5b ?_
                case c3b => unfold maxLen; have := HTL.out; have := HZl.out; have := HML.out; omega
                case c4b => have := HTL.out; have := HZl.out; have := HML.out; omega
                case c5b => exact HM8.out.b.size
                intro v9 W9 hown9 hgrow9 _
                have HM9 := hid13 (HM8.out.app (S := S3.data.toList) hgrow9 (by
                  rw [bc_str] at hown9
                  rw [List.length_append, bc_app]; exact hown9))
                rw [HS3.out] at HM9
                obtain ⟨xo9, xc9, hxf9⟩ := own_form hown9
                clear hown9 hgrow9 HM8
                subst hxf9
                rw [hS3s] at HM9
                go_wp2
                go_roundg (gk - 1)
                case measure => have := HJ.out; omega
                case rel => exact ⟨j + 1, by have := HJ.out; omega, rfl, HM9⟩
              · have hli2 : ¬ (j : Int) < (M.length : Int) := by omega
                obtain rfl : j = M.length := by omega
                rw [List.take_length] at hZd
                have q9 := bl1 wr (.cells #[.int .u8 10] 5)
                have HM8 := hid13 (HM7.out.below q9)
                have HZd := hid13 hZd
                have H47 : Hid (Z.length + 1 ≤ maxLen ∧ (Z.length + 1) * 1 ≤ 140737488355328) := hid13 ⟨by unfold maxLen; have := HTL.out; have := HZl.out; have := HML.out; omega, by have := HTL.out; have := HZl.out; have := HML.out; omega⟩
                clear q9 hZd hlt hj HM7
                go_wp2_with (at_builtin; apply stopHere9)
                refine (show wpList _ _ _ _ _ _ from ?_)
                refine wpList_append_lies _ rfl _ _ 22 rfl w.heap.size 5 i0 (.int .u8 0) 1 1 Tryd.underlying22 hi hz0 hz1 hz2 rfl (by decide) _ _ _ rfl HM8.out.r ⟨wr.heap.size, 0, none⟩ 1 1 [.int .u8 10] rfl rfl (news13 (by simp [go_sem])) (by intro u hu; simp at hu; subst hu; rfl) (by decide) H47.out.1 H47.out.2 HM8.out.b.size _ rfl ?_
                intro g4 cap4 W9 hown9 hgrow9 hat4 hlt4
                have HM9 := hid13 (HM8.out.app (S := [10]) hgrow9 (by rw [List.length_append, bc_app]; exact hown9))
                have hEq9 : Z ++ [10] = T ++ lnT l k := by rw [HZd.out, HEQ.out]
                rw [hEq9] at HM9
                clear hEq9
                clear hown9 hgrow9 hat4 hlt4 HM8 H47 c2
                go_wp2
                go_roundg f
                case measure => omega
                case rel => exact ⟨k + z, T ++ lnT l k, rfl, hid13 ⟨by first | exact HM9.out.r | (have := HM9.out.r; exact this), HM9.out.b, by rw [← HS.out.2.2.1, HPr.out, List.append_assoc], by have := HS.out; have := HZ.out; omega, HZ.out.2.1, by have := HS.out; have := HZ.out; rw [List.length_append]; omega⟩⟩
        · have hT : lnT l k = nmL 0 ++ wdsL [wdV l k] ++ [10] := by unfold lnT; rw [if_neg he]
          have hZ : lnZ l k = 1 := by unfold lnZ; rw [if_neg he]
          rw [hZ] at HZ HPr
          have hI : dcI l (k : Int) = ⟨0, 0, []⟩ := by unfold dcI; rw [if_neg he]
          rw [hI] at KD
          simp only [insV, List.map_nil, List.length_nil] at KD
          have he1 : (dcE l (k : Int) == 0) = false := by rw [beq_eq_false_iff_ne]; exact he
          generalize dcE l (k : Int) = ee at *
          generalize dcZ l (k : Int) = z at *
          have mk : IntKind.i64.wrap (4 * (k : Int)) = 4 * (k : Int) := by rw [IntKind.wrap_i64]; have := HQ.out; omega
          have mk1 : IntKind.i64.wrap ((k : Int) + 1) = (k : Int) + 1 := by rw [IntKind.wrap_i64]; have := HQ.out; omega
          have e1 : ((gtN l (4 * (k : Int)) 4 : Nat) : Int) = uI (wdV l k) := by
            rw [wd_uI l k HX.out]
            unfold gtN
            rw [if_pos ⟨by omega, by omega⟩]
            have : (4 * (k : Int)).toNat = 4 * k := by omega
            rw [this]
          have HTL : Hid (T.length ≤ 130 * k ∧ k < Q ∧ Q ≤ 25000) := hid13 ⟨HS.out.2.2.2.2.2, HZ.out.2.2.2, by have := HQ.out; omega⟩
          clear he hI hZ
          go_wp2_with fail
          refine KD.mono ?_
          rintro e w1 ⟨v', rfl, ho, hb1⟩
          have q2 := bl1 w1 (.cells #[.int .i64 0, .int .i64 0, v'] 45)
          have hbb := keepb q2 hb1
          have HR := hid13 (own_b13 hbb HS.out.1)
          have HB := hid13 (keepb hbb HS.out.2.1)
          have KG := rget13 (.slice ao l.length cp) l (4 * (k : Int)) 4 4 rfl (by decide) (by decide) _ (HV.out.below HB.out) (by have := HQ.out; omega) HX.out (by have := HQ.out; omega) (by have := HQ.out; omega)
          rw [e1] at KG
          obtain ⟨mo, mc, hvf'⟩ := own_form ho
          subst hvf'
          clear KD ho hb1 q2 hbb e1 hkq
          generalize decide (0 ≤ 4 * (k : Int) ∧ 4 * (k : Int) ≤ (l.length : Int) - ((4 : Nat) : Int)) = bo at *
          go_wp2_with fail
          refine KG.mono ?_
          rintro e w2 ⟨rfl, hw2⟩
          replace hw2 := hw2.symm
          subst hw2
          have KH := rdhex_any (wdV l k) (w1.alloc (.cells #[.int .i64 0, .int .i64 0, .slice mo 0 mc] 45))
          obtain ⟨H, hH⟩ : ∃ H : ByteArray, (⟨(hexL (wdV l k)).toArray⟩ : ByteArray) = H := ⟨_, rfl⟩
          have hHl : H.data.toList = hexL (wdV l k) := by rw [← hH]
          have hH8 : H.size = 8 := by show H.data.size = 8; rw [← Array.length_toList, hHl]; unfold hexL; exact hexN_len _ _
          rw [hH] at KH
          obtain ⟨S1, hS1⟩ : ∃ S1 : ByteArray, (⟨#[119, 111, 114, 100, 32]⟩ : ByteArray) ++ H = S1 := ⟨_, rfl⟩
          have hS1s : S1.size = 13 := by rw [← hS1, ByteArray.size_append, hH8]; rfl
          obtain ⟨S2, hS2⟩ : ∃ S2 : ByteArray, S1 ++ (⟨#[10]⟩ : ByteArray) = S2 := ⟨_, rfl⟩
          have hS2s : S2.size = 14 := by rw [← hS2, ByteArray.size_append, hS1s]; rfl
          have HSL : Hid (S2.data.toList = lnT l k) := hid13 (by
            rw [hT, ← hS2, ← hS1]
            simp only [ByteArray.data_append, Array.toList_append, hHl]
            have : wdsL [wdV l k] = 32 :: hexL (wdV l k) := by unfold wdsL; simp
            rw [this]
            rfl)
          clear KG hT hH hHl
          go_wp2_with fail
          refine KH.mono ?_
          rintro e w3 ⟨rfl, hb3⟩
          have HR3 := hid13 (own_b13 hb3 HR.out)
          have HB3 := hid13 (keepb hb3 HB.out)
          clear KH hb3 HR HB
          go_wp2_with (at_builtin; apply stopHere9)
          refine (show wpList _ _ _ _ _ _ from ?_)
          refine Lib.wpList_append_own_string _ rfl _ _ 22 9 rfl w.heap.size 5 i0 Tryd.underlying22 Tryd.underlying9 hi hz0 hz1 hz2 _ _ _ rfl HR3.out S2 rfl ?c3c ?c4c ?c5c ?_
          case c3c => unfold maxLen; have := HTL.out; omega
          case c4c => have := HTL.out; omega
          case c5c => exact HB3.out.size
          intro v9 w9 hown9 hgrow _
          have HF : Hid (w9.ownsRow w.heap.size 5 1 v9 (T ++ lnT l k).length (Lib.byteCells (T ++ lnT l k)) ∧ Below w.heap.size w w9) := hid13 ⟨by
            rw [bc_str, HSL.out] at hown9
            have : S2.size = (lnT l k).length := by rw [← HSL.out]; rfl
            rw [List.length_append, bc_app, ← this]; exact hown9, HB3.out.grown hgrow HB3.out.size (fun z e => (HR3.out.lt z e).1)⟩
          obtain ⟨yo, yc, hyf⟩ := own_form hown9
          clear hown9 hgrow HR3 HB3
          subst hyf
          rw [hS2s] at HF
          go_wp2
          go_roundg f
          case measure => omega
          case rel => exact ⟨k + 1, T ++ lnT l k, rfl, hid13 ⟨HF.out.1, HF.out.2, by rw [← HS.out.2.2.1, HPr.out, List.append_assoc], by have := HS.out; have := HZ.out; omega, HZ.out.2.1, by have := HS.out; have := HZ.out; rw [List.length_append]; omega⟩⟩
      · have hli : ¬ (k : Int) < (Q : Int) := by omega
        have hR : T = prT l := by
          have := HS.out.2.2.1
          rw [show prL l (f + 1) k = (if k < l.length / 4 then lnT l k ++ prL l f (k + lnZ l k) else []) from rfl, if_neg (by have := HQ.out; omega), List.append_nil] at this
          exact this
        have hc := conv15 HS.out.1
        have HTT : Hid (T = prT l) := hid13 hR
        clear hlt hR
        go_wp2
        exact bodyPost_ret (v := .tuple #[.string ⟨T.toArray⟩, .int .i64 0]) (by simp [results, Tryd.results10, go_sem]) rfl ⟨by rw [HTT.out], HS.out.2.1⟩
  · have hT : prT l = [] := by unfold prT; rw [if_neg h4]
    have hE : prE l = 30 := by unfold prE; rw [if_neg h4]
    rw [hT, hE]
    obtain ⟨q, hq⟩ : ∃ q, q = l.length % 4 := ⟨_, rfl⟩
    rw [← hq] at m0 h4
    have m0' : ((l.length : Nat) : Int) % 4 = (q : Int) := by omega
    have h4' : ((q : Int) == 0) = false := by rw [beq_eq_false_iff_ne]; omega
    clear hT hE hv hx hq
    go_enter Tryd.func10, Tryd.ntmps10
    go_wp2
    exact bodyPost_ret (v := .tuple #[.string ⟨#[]⟩, .int .i64 30]) (by simp [results, Tryd.results10, go_sem]) rfl ⟨rfl, Below.refl _ _⟩
end Go.Proofs.YtologchdnjnadaaDoor
