/-
  Part 8 of the proof: 2 texts, one behind the other.
-/
import Derived.Test.YtdpmhpmnkollaaaPart7
import Derived.Test.YtdpmhpmnkollaaaPart6
namespace Go.Proofs.Ytdpmhpmnkollaaa
open Go.RowKit Go.Shelf
set_option linter.unusedSimpArgs false
set_option linter.unusedVariables false
attribute [local go_sem] Oper.semAt_some

def cBo18 (b : Bool) : Value := .bool b
theorem ix_at {s : List Bool} {k : Nat} (h : s[k]? = some false) (hb : ∀ j : Nat, j < k → s[j]? ≠ some false) : ixB s = (k : Int) := by
  unfold ixB
  have hf : s.findIdx? (· == false) = some k := by
    rw [List.findIdx?_eq_some_iff_getElem]
    obtain ⟨h1, h2⟩ := List.getElem?_eq_some_iff.mp h
    refine ⟨h1, by simp [h2], fun j hj => ?_⟩
    have := hb j hj
    rw [List.getElem?_eq_getElem (by omega)] at this
    simpa using this
  rw [hf]
theorem ix_no {s : List Bool} (hb : ∀ j : Nat, s[j]? ≠ some false) : ixB s = -1 := by
  unfold ixB
  have hf : s.findIdx? (· == false) = none := by
    rw [List.findIdx?_eq_none_iff]
    intro y hy
    obtain ⟨i, hi⟩ := List.getElem?_of_mem hy
    have := hb i
    rw [hi] at this
    simpa using this
  rw [hf]
set_option maxRecDepth 20000 in
set_option maxHeartbeats 4000000 in
theorem indexB18 (z n : Nat) (s : List Bool) (w : World) (hz : w.heap[z]? = some (.cells (s.map cBo18).toArray 4)) (hn : s.length = n) (hl : n ≤ 1000000000) :
    Calls Try.prog 87 #[.slice (some ⟨z, 0, none⟩) n n, .bool false] w fun e w' => e = .returned (.int .i64 (ixB s)) ∧ w' = w := by
  have HC : Hid (∀ k b, s[k]? = some b → w.cell? ⟨z, k, none⟩ = some (.bool b)) := hid13 (fun k b hk => at_16 hz k _ (by rw [List.getElem?_toArray, List.getElem?_map, hk]; rfl))
  obtain ⟨R, hR⟩ : ∃ R, R = ixB s := ⟨_, rfl⟩
  have HR := hid13 hR
  have HN : Hid (s.length = n ∧ n ≤ 1000000000) := ⟨hn, hl⟩
  rw [← hR]
  clear hz hR hn hl
  go_enter Try.func87, Try.ntmps87
  go_wp2_with fail
  go_loopg [8] n (fun g iv wr => ∃ i : Nat, i + g = n ∧ iv = .int .i64 (i : Int) ∧ wr = w ∧ Hid (∀ j, j < i → s[j]? ≠ some false))
  case atStart => exact ⟨0, by omega, rfl, rfl, hid13 (fun j hj => by omega)⟩
  case round =>
    obtain ⟨i, hk, rfl, hw, HI⟩ := hrel
    replace hw := hw.symm
    subst hw
    by_cases hlt : (i : Int) < (n : Int)
    · obtain ⟨b, hb⟩ : ∃ b, s[i]? = some b := ⟨_, List.getElem?_eq_getElem (by have := HN.out; omega)⟩
      have c0 := HC.out i b hb
      have mi : IntKind.i64.wrap ((i : Int) + 1) = ((i + 1 : Nat) : Int) := by rw [IntKind.wrap_i64]; have := HN.out; push_cast; omega
      cases b with
      | false =>
        have HF : Hid (R = (i : Int)) := hid13 (by rw [HR.out]; exact ix_at hb HI.out)
        clear hb hk
        go_wp2
        exact bodyPost_ret (v := .int .i64 (i : Int)) (by simp [results, Try.results87, go_sem]) rfl ⟨by rw [HF.out], rfl⟩
      | true =>
        have HI2 : Hid (∀ j, j < i + 1 → s[j]? ≠ some false) := hid13 (fun j hj => by
          by_cases e : j = i
          · subst e; rw [hb]; simp
          · exact HI.out j (by omega))
        have HK : Hid (i + gk = n ∧ i < n) := ⟨hk, by omega⟩
        clear hb hk HI
        go_wp2
        go_roundg (gk - 1)
        case measure => have := HK.out; omega
        case rel => exact ⟨i + 1, by have := HK.out; omega, rfl, rfl, HI2⟩
    · have HF : Hid (R = -1) := hid13 (by
        rw [HR.out]
        refine ix_no (fun j => ?_)
        by_cases hj : j < i
        · exact HI.out j hj
        · rw [List.getElem?_eq_none (by have := HN.out; omega)]; simp)
      clear hk HI
      go_wp2
      exact bodyPost_ret (v := .int .i64 (-1)) (by simp [results, Try.results87, go_sem]) rfl ⟨by rw [HF.out], rfl⟩
theorem Try.infoO18 : (Try.prog.info? 4).map (fun i => (i.zero, i.size, i.bytes)) = some (some (.bool false), 1, 1) := by kernel_rfl
theorem map_set18 (l : List Bool) (k : Nat) (b : Bool) : (l.map cBo18).toArray.setIfInBounds k (.bool b) = ((l.set k b).map cBo18).toArray := by
  rw [List.setIfInBounds_toArray, List.map_set]; rfl
structure UsM (w : World) (base Q : Nat) (vb : Value) (L : List Bv) (P : List PB) (Z : Nat) (s : List Bool) (W : World) : Prop where
  p : PgV w W base Q vb 0 0 L P
  z : W.heap[Z]? = some (.cells (s.map cBo18).toArray 4)
  bZ : base ≤ Z
section
variable {w W W' : World} {base Q : Nat} {vb : Value} {L : List Bv} {P : List PB} {Z : Nat} {s : List Bool}
theorem UsM.below (h : UsM w base Q vb L P Z s W) (hb : Below W.heap.size W W') : UsM w base Q vb L P Z s W' := ⟨h.p.below hb, (hb.block _ (lt_16 h.z)).trans h.z, h.bZ⟩
theorem PgV.far {z o : Nat} {cs : Array Value} {T : TypeId} {dp an : Int} (h : PgV w W base Q vb dp an L P) (hz : W.heap[z]? = some (.cells cs T)) (h1 : 111 ≠ T) (h2 : 96 ≠ T) (h3 : 135 ≠ T) (h4 : 81 ≠ T) (hb : base ≤ z) (u : Value) : PgV w (W.setCell ⟨z, o, none⟩ u) base Q vb dp an L P :=
  ⟨(far_16 (fun q => by
    have := h.g
    rw [q, hz] at this
    injection this with this
    injection this with _ h5 _
    exact h4 h5.symm)).trans h.g, h.b.far hz h1 h2 h3 u, h.bQ, h.lo.setCell (p := ⟨z, o, none⟩) hb _⟩
theorem UsM.set (h : UsM w base Q vb L P Z s W) (k : Nat) : UsM w base Q vb L P Z (s.set k true) (W.setCell ⟨Z, k, none⟩ (.bool true)) :=
  ⟨h.p.far h.z (by decide) (by decide) (by decide) (by decide) h.bZ _, by rw [set_16 h.z, map_set18], h.bZ⟩
theorem UsM.cell (h : UsM w base Q vb L P Z s W) {k : Nat} {b : Bool} (hk : s[k]? = some b) : W.cell? ⟨Z, k, none⟩ = some (.bool b) ∧ W.frozen? ⟨Z, k, none⟩ = false :=
  ⟨at_16 h.z k _ (by rw [List.getElem?_toArray, List.getElem?_map, hk]; rfl), fr_16 h.z⟩
end
def UsQ (w : World) (base Q : Nat) (vb : Value) (L : List Bv) (P : List PB) (e : Ending) (W' : World) : Prop := e = .returned (.tuple #[.int .i64 (usR P).1, .int .i64 (usR P).2]) ∧ PgV w W' base Q vb 0 0 L P
set_option maxRecDepth 20000 in
set_option maxHeartbeats 16000000 in
theorem used18 (w0 w : World) (base Q : Nat) (vb : Value) (L : List Bv) (P : List PB) (h : PgV w0 w base Q vb 0 0 L P) (h0 : 0 < P.length) (hl : P.length ≤ 100000000) (hb : ∀ b ∈ P, b.es.length ≤ 100000000 ∧ ∀ e ∈ b.es, e.1 = true → 0 ≤ e.2 ∧ e.2 < P.length) :
    Calls Try.prog 64 #[.pointer (some ⟨Q, 0, none⟩)] w (UsQ w0 base Q vb L P) := by
  obtain ⟨i0, hi, hz0, hz1, hz2⟩ := info13 Try.infoO18
  obtain ⟨g, c, hvb, -⟩ := own_some18 h.b.o (by rw [h.b.l]; exact h0)
  subst hvb
  have hLl := h.b.l
  have HP0 := hid13 h
  have HB := hid13 hb
  have c0 := h.c0
  obtain ⟨n, hn⟩ : ∃ n, n = P.length := ⟨_, rfl⟩
  rw [hLl, ← hn] at c0
  have HN : Hid (n = P.length ∧ 0 < n ∧ n ≤ 100000000 ∧ L.length = n) := ⟨hn, by omega, by omega, by omega⟩
  have hn0 : 0 < n := by omega
  clear h h0 hl hb hLl hn
  go_enter Try.func64, Try.ntmps64
  go_wp2_with (at_make; apply stopHere9)
  refine (show wpList _ _ _ _ _ _ from ?_)
  refine wpList_make16 _ rfl _ _ 55 rfl 4 i0 (.bool false) Try.underlying55 hi hz0 .i64 .i64 _ _ n n rfl rfl rfl rfl (Nat.le_refl _) (by rw [hz2]; have := HN.out; omega) (by unfold maxLen; have := HN.out; omega) ?_
  have eO : madeCells (Value.bool false).cells (n * i0.size) = ((List.replicate n false).map cBo18).toArray := by rw [hz1, Nat.mul_one, List.map_replicate]; exact made_one16 _ _
  rw [eO]
  clear eO
  obtain ⟨O, hO⟩ : ∃ O : Obj, O = .cells ((List.replicate n false).map cBo18).toArray 4 := ⟨_, rfl⟩
  rw [← hO]
  have q1 := bl1 w O
  have U0 : UsM w0 base Q (.slice (some ⟨g, 0, none⟩) L.length c) L P w.heap.size (List.replicate n false) (w.alloc O) := ⟨HP0.out.below q1, by rw [← hO]; exact new_16 _ _, HP0.out.sz⟩
  obtain ⟨x1, x2⟩ := U0.cell (k := 0) (b := false) (by rw [List.getElem?_replicate_of_lt hn0])
  have HU1 := hid13 (U0.set 0)
  have c1 : ((w.alloc O).setCell ⟨w.heap.size, 0, none⟩ (.bool true)).cell? ⟨Q, 0, none⟩ = some (.slice (some ⟨g, 0, none⟩) n c) := by have := HU1.out.p.c0; rw [HN.out.2.2.2] at this; exact this
  have hn0i : (0 : Int) < (n : Int) := by omega
  have hQn : ¬ Q = w.heap.size := by have := lt_16 HP0.out.g; omega
  have hQn2 : ¬ w.heap.size = Q := fun q => hQn q.symm
  have c2 : (w.alloc O).cell? ⟨Q, 0, none⟩ = some (.slice (some ⟨g, 0, none⟩) n c) := keepc q1 c0
  clear hO q1 U0
  go_wp2_with fail
  clear x1 x2 c1 c0 c2 hQn hQn2
  obtain ⟨Z, hZ⟩ : ∃ Z, Z = w.heap.size := ⟨_, rfl⟩
  rw [← hZ] at HU1 ⊢
  revert HU1
  generalize (w.alloc O).setCell ⟨Z, 0, none⟩ (.bool true) = W0
  intro HU1
  clear hZ HP0 hn0 hn0i
  go_loopg [23] n (fun gk jv wr => ∃ (j : Nat) (A B : List PB), j + gk = n ∧ jv = .int .i64 (j : Int) ∧ Hid (P = A ++ B ∧ A.length = j ∧ UsM w0 base Q (.slice (some ⟨g, 0, none⟩) L.length c) L P Z (A.foldl mkB (mk0 n)) wr))
  case atStart => exact ⟨0, [], P, by omega, rfl, hid13 ⟨rfl, rfl, HU1.out⟩⟩
  case round =>
    clear HU1
    obtain ⟨j, A, B, hk, rfl, HI⟩ := hrel
    by_cases hlt : (j : Int) < (n : Int)
    · obtain ⟨b, B', hB⟩ : ∃ b B', B = b :: B' := by
        cases hB : B with
        | nil =>
          have e1 := HI.out.1
          have e2 := HI.out.2.1
          rw [hB, List.append_nil] at e1
          have := HN.out
          rw [e1] at *
          omega
        | cons b B' => exact ⟨b, B', rfl⟩
      subst hB
      obtain ⟨hPA, hjA, hU⟩ := HI.out
      have hmem : b ∈ P := by rw [hPA]; simp
      have hbb := HB.out b hmem
      have hge : P[j]? = some b := by rw [hPA, ← hjA]; simp
      obtain ⟨x, hx, hxa, hxt, hxo, d0, d1, d2, d3⟩ := hU.p.blk hge
      obtain ⟨so, sc, hso⟩ := own_form hxo.2.2.1
      obtain ⟨eo, ec, heo⟩ := own_form hxo.2.2.2
      rw [hso] at d2
      rw [heo] at d3
      have q1 := bl1 wr (.cells #[.int .i64 b.a, .int .i64 b.t, .slice so b.m.length sc, .slice eo b.es.length ec] 111)
      have HU0 : Hid (UsM w0 base Q (.slice (some ⟨g, 0, none⟩) L.length c) L P Z (([] : List (Bool × Int)).foldl mkX (A.foldl mkB (mk0 n))) (wr.alloc (.cells #[.int .i64 b.a, .int .i64 b.t, .slice so b.m.length sc, .slice eo b.es.length ec] 111))) := hU.below q1
      obtain ⟨GK, hGK⟩ : ∃ GK, GK = gk := ⟨_, rfl⟩
      have HJ : Hid (j + GK = n ∧ GK = gk ∧ j < n) := ⟨by omega, hGK, by omega⟩
      have HX : Hid (P[j]? = some b ∧ L[j]? = some x ∧ x.ve = .slice eo b.es.length ec) := ⟨hge, hx, heo⟩
      have HPA : Hid (P = A ++ b :: B' ∧ A.length = j) := ⟨hPA, hjA⟩
      have HBb := hid13 hbb
      have hsl : (A.foldl mkB (mk0 n)).length = n := by rw [mkA_len]; unfold mk0; simp
      have HSl := hid13 hsl
      have mj : IntKind.i64.wrap ((j : Int) + 1) = ((j + 1 : Nat) : Int) := by rw [IntKind.wrap_i64]; have := HN.out; push_cast; omega
      obtain ⟨ba, hba⟩ : ∃ y, y = b.a := ⟨_, rfl⟩
      obtain ⟨bt, hbt⟩ : ∃ y, y = b.t := ⟨_, rfl⟩
      obtain ⟨bm, hbm⟩ : ∃ y, y = b.m.length := ⟨_, rfl⟩
      obtain ⟨bn, hbn⟩ : ∃ y, y = b.es.length := ⟨_, rfl⟩
      rw [← hba, ← hbt, ← hbm, ← hbn] at HU0
      rw [← hba] at d0
      rw [← hbt] at d1
      rw [← hbm] at d2
      rw [← hbn] at d3 HX HBb
      have HBn := hid13 hbn
      obtain ⟨S0, hS0⟩ : ∃ S0, S0 = A.foldl mkB (mk0 n) := ⟨_, rfl⟩
      rw [← hS0] at HU0 HSl
      have HS0 : Hid (A.foldl mkB (mk0 n) = S0) := hS0.symm
      clear hPA hjA hU hmem hbb hge hx hxa hxt hxo hso heo q1 hGK hk HI hba hbt hbm hbn hsl hS0
      go_wp2_with fail
      revert HU0
      generalize wr.alloc (.cells #[.int .i64 ba, .int .i64 bt, .slice so bm sc, .slice eo bn ec] 111) = W1
      intro HU0
      clear d0 d1 d2 d3
      go_loopg [30] bn (fun gk iv wr2 => ∃ (i : Nat) (X Y : List (Bool × Int)), i + gk = bn ∧ iv = .int .i64 (i : Int) ∧ Hid (b.es = X ++ Y ∧ X.length = i ∧ UsM w0 base Q (.slice (some ⟨g, 0, none⟩) L.length c) L P Z (X.foldl mkX S0) wr2))
      case atStart => exact ⟨0, [], b.es, by omega, rfl, hid13 ⟨rfl, rfl, HU0.out⟩⟩
      case round =>
        clear HU0
        obtain ⟨i, X, Y, hk2, rfl, HI2⟩ := hrel
        by_cases hlt2 : (i : Int) < (bn : Int)
        · obtain ⟨e, Y', hY⟩ : ∃ e Y', Y = e :: Y' := by
            cases hY : Y with
            | nil =>
              have e1 := HI2.out.1
              have e2 := HI2.out.2.1
              have e3 := HBn.out
              rw [e1, hY, List.append_nil] at e3
              omega
            | cons e Y' => exact ⟨e, Y', rfl⟩
          subst hY
          obtain ⟨eb, en⟩ := e
          obtain ⟨hes, hXi, hU⟩ := HI2.out
          have hei : b.es[i]? = some (eb, en) := by rw [hes, ← hXi]; simp
          have hbo := (hU.p.b.m j x b HX.out.2.1 HX.out.1).2.2.2
          rw [← HBn.out, HX.out.2.2] at hbo
          obtain ⟨eg, ec', hee, -⟩ := own_some18 hbo (by omega)
          injection hee with he1 he2 he3
          subst he1 he3
          obtain ⟨r1, r2⟩ := rowE8_get _ _ _ hei
          have k1 := (own_at18 hbo r1).1
          have k2 := (own_at18 hbo r2).1
          dsimp only at k1 k2
          have q1 := bl1 wr (.cells #[.bool eb, .int .i64 en] 135)
          have hU1 := hU.below q1
          have mi : IntKind.i64.wrap ((i : Int) + 1) = ((i + 1 : Nat) : Int) := by rw [IntKind.wrap_i64]; have := HBb.out; push_cast; omega
          have HK2 : Hid (i + gk = bn ∧ i < bn) := ⟨hk2, by omega⟩
          have HEs : Hid (b.es = (X ++ [(eb, en)]) ++ Y' ∧ (X ++ [(eb, en)]).length = i + 1) := ⟨by rw [hes]; simp, by rw [List.length_append, hXi]; rfl⟩
          have hfo : (X ++ [(eb, en)]).foldl mkX S0 = mkX (X.foldl mkX S0) (eb, en) := by rw [List.foldl_append]; rfl
          have hsl : (X.foldl mkX S0).length = n := by rw [mkF_len18]; exact HSl.out
          have hen := HBb.out.2 (eb, en) (List.mem_of_getElem? hei)
          cases eb with
          | false =>
            have HU2 : Hid (UsM w0 base Q (.slice (some ⟨g, 0, none⟩) L.length c) L P Z ((X ++ [(false, en)]).foldl mkX S0) (wr.alloc (.cells #[.bool false, .int .i64 en] 135))) := hid13 (by rw [hfo]; exact hU1)
            clear hes hXi hU hei hbo he2 r1 r2 q1 hk2 HI2 hU1 hfo hsl hen
            go_wp2
            go_roundg (gk - 1)
            case measure => have := HK2.out; omega
            case rel => exact ⟨i + 1, _, _, by have := HK2.out; omega, rfl, hid13 ⟨HEs.out.1, HEs.out.2, HU2.out⟩⟩
          | true =>
            obtain ⟨h5, h6⟩ := hen rfl
            dsimp only at h5 h6
            obtain ⟨k, rfl⟩ : ∃ k : Nat, en = (k : Int) := ⟨en.toNat, by omega⟩
            have hkn : k < n := by have := HN.out; omega
            obtain ⟨b0, hb0⟩ : ∃ b0, (X.foldl mkX S0)[k]? = some b0 := ⟨_, List.getElem?_eq_getElem (by omega)⟩
            obtain ⟨y1, y2⟩ := hU1.cell hb0
            have HU2 : Hid (UsM w0 base Q (.slice (some ⟨g, 0, none⟩) L.length c) L P Z ((X ++ [(true, (k : Int))]).foldl mkX S0) ((wr.alloc (.cells #[.bool true, .int .i64 (k : Int)] 135)).setCell ⟨Z, k, none⟩ (.bool true))) := hid13 (by
              rw [hfo]
              unfold mkX
              rw [if_pos rfl, Int.toNat_natCast]
              exact hU1.set k)
            have hkni : (k : Int) < (n : Int) := by omega
            clear hes hXi hU hei hbo he2 r1 r2 q1 hk2 HI2 hU1 hfo hsl hen h5 h6 hb0 hkn
            go_wp2
            go_roundg (gk - 1)
            case measure => have := HK2.out; omega
            case rel => exact ⟨i + 1, _, _, by have := HK2.out; omega, rfl, hid13 ⟨HEs.out.1, HEs.out.2, HU2.out⟩⟩
        · have HFin : Hid (P = (A ++ [b]) ++ B' ∧ (A ++ [b]).length = j + 1 ∧ UsM w0 base Q (.slice (some ⟨g, 0, none⟩) L.length c) L P Z (mkB S0 b) wr) := hid13 (by
            obtain ⟨hes, hXi, hU⟩ := HI2.out
            have hYn : Y = [] := by
              have e3 := HBn.out
              rw [hes, List.length_append] at e3
              exact List.eq_nil_of_length_eq_zero (by omega)
            rw [hYn, List.append_nil] at hes
            refine ⟨by rw [HPA.out.1]; simp, by rw [List.length_append, HPA.out.2]; rfl, ?_⟩
            unfold mkB
            rw [hes]
            exact hU)
          clear HI2 hk2
          go_wp2
          go_roundg (GK - 1)
          case measure => have := HJ.out; omega
          case rel => exact ⟨j + 1, A ++ [b], B', by have := HJ.out; omega, rfl, hid13 ⟨HFin.out.1, HFin.out.2.1, by rw [List.foldl_append, HS0.out]; exact HFin.out.2.2⟩⟩
    · have hU : UsM w0 base Q (.slice (some ⟨g, 0, none⟩) L.length c) L P Z (mkA P) wr := by
        obtain ⟨hPA, hjA, hU⟩ := HI.out
        have hBn : B = [] := by
          have e2 : P.length = A.length + B.length := by rw [hPA, List.length_append]
          have := HN.out
          exact List.eq_nil_of_length_eq_zero (by omega)
        rw [hBn, List.append_nil] at hPA
        have e : mkA P = A.foldl mkB (mk0 n) := by
          unfold mkA
          rw [← HN.out.1]
          exact congrArg (fun l => l.foldl mkB (mk0 n)) hPA
        rw [e]
        exact hU
      have hml : (mkA P).length = n := by unfold mkA; rw [mkA_len]; unfold mk0; simp [HN.out.1]
      have KI := indexB18 Z n (mkA P) wr hU.z hml (by have := HN.out; omega)
      have HU := hid13 hU
      have HRR : Hid (usR P = if 0 ≤ ixB (mkA P) then ((P.getD (ixB (mkA P)).toNat ⟨0, 0, [], []⟩).a, 31) else (0, 0)) := rfl
      have HIx : Hid (∀ k : Nat, ixB (mkA P) = (k : Int) → k < n) := hid13 (fun k hk => by
        unfold ixB at hk
        cases hf : (mkA P).findIdx? (· == false) with
        | none => rw [hf] at hk; simp at hk
        | some k' =>
          rw [hf] at hk
          have := (List.findIdx?_eq_some_iff_getElem.mp hf).1
          simp at hk
          omega)
      have hxb : -1 ≤ ixB (mkA P) := by unfold ixB; split <;> omega
      generalize ixB (mkA P) = R at *
      clear hU hml HI hk
      go_wp2_with fail
      refine KI.mono ?_
      rintro e W2 ⟨rfl, hw⟩
      replace hw := hw.symm
      subst hw
      clear KI
      by_cases hR0 : 0 ≤ R
      · obtain ⟨k, rfl⟩ : ∃ k : Nat, R = (k : Int) := ⟨R.toNat, by omega⟩
        have hkn := HIx.out k rfl
        obtain ⟨p, hp⟩ : ∃ p, P[k]? = some p := ⟨_, List.getElem?_eq_getElem (by have := HN.out; omega)⟩
        obtain ⟨x, -, -, -, -, d0, -⟩ := HU.out.p.blk hp
        have c0 := HU.out.p.c0
        rw [HN.out.2.2.2] at c0
        have hkni : (k : Int) < (n : Int) := by omega
        have HRf : Hid (usR P = (p.a, 31)) := hid13 (by rw [HRR.out, if_pos hR0, Int.toNat_natCast, List.getD_eq_getElem?_getD, hp]; rfl)
        obtain ⟨pa, hpa⟩ : ∃ pa, pa = p.a := ⟨_, rfl⟩
        rw [← hpa] at d0 HRf
        clear HRR HIx hxb hkn hp hpa
        go_wp2
        exact bodyPost_ret (v := .tuple #[.int .i64 pa, .int .i64 31]) (by simp [results, Try.results64, go_sem]) rfl ⟨by rw [HRf.out], HU.out.p⟩
      · have HRf : Hid (usR P = (0, 0)) := hid13 (by rw [HRR.out, if_neg hR0])
        clear HRR HIx hxb
        go_wp2
        exact bodyPost_ret (v := .tuple #[.int .i64 0, .int .i64 0]) (by simp [results, Try.results64, go_sem]) rfl ⟨by rw [HRf.out], HU.out.p⟩
end Go.Proofs.Ytdpmhpmnkollaaa
namespace Go.Proofs.Ytdpmhpmnkollaaa
open Go.RowKit
set_option linter.unusedSimpArgs false
set_option linter.unusedVariables false

set_option maxRecDepth 20000 in
set_option maxHeartbeats 4000000 in
theorem last_any18 (G g n c : Nat) (w : World) (h : w.cell? ⟨G, 2, none⟩ = some (.slice (some ⟨g, 0, none⟩) n c)) (hn : 0 < n) (hn2 : n ≤ 1000000000) :
    Calls Try.prog 122 #[.pointer (some ⟨G, 0, none⟩)] w fun e w' => e = .returned (.pointer (some ⟨g, (n - 1) * 4, none⟩)) ∧ Below w.heap.size w w' := by
  have m1 : IntKind.i64.wrap ((n : Int) - 1) = (n : Int) - 1 := by rw [IntKind.wrap_i64]; omega
  have m2 : ((n : Int) - 1).toNat = n - 1 := by omega
  have h1 : (0 : Int) ≤ (n : Int) - 1 := by omega
  have h2 : (n : Int) - 1 < (n : Int) := by omega
  have h' : w.drew.cell? ⟨G, 2, none⟩ = some (.slice (some ⟨g, 0, none⟩) n c) := h
  go_enter Try.func122, Try.ntmps122
  go_wp2
  go_region
  go_wp2
  exact bodyPost_ret (v := .pointer (some ⟨g, (n - 1) * 4, none⟩)) (by simp [results, Try.results122, go_sem, *]) rfl ⟨rfl, (Below.refl _ _).drew⟩
end Go.Proofs.Ytdpmhpmnkollaaa
