/-
  Part 17 of the proof: 3 texts, one behind the other.
-/
import Derived.Test.YtdpmhpmnkollaaaPart16
import Derived.Test.YtdpmhpmnkollaaaPart14
namespace Go.Proofs.Ytdpmhpmnkollaaa
open Go.RowKit Go.Shelf
set_option linter.unusedSimpArgs false
set_option linter.unusedVariables false
attribute [local go_sem] Oper.semAt_some

def lyB (L : List Nde) (P : List Int) : Nat → List Int → List Nat
  | _, [] => []
  | a, k :: o => ndB P a (L.getD k.toNat ⟨0, []⟩) ++ lyB L P (a + szN (L.getD k.toNat ⟨0, []⟩)) o
def wsum (L : List Nde) : List Int → Nat
  | [] => 0
  | k :: o => szN (L.getD k.toNat ⟨0, []⟩) + wsum L o
def LayOk (L : List Nde) (P : List Int) : Nat → List Int → Prop
  | _, [] => True
  | a, k :: o => (∃ d, L[k.toNat]? = some d ∧ 0 ≤ k ∧ NdLay P a d) ∧ LayOk L P (a + szN (L.getD k.toNat ⟨0, []⟩)) o
theorem ly_drop {L : List Nde} {P : List Int} {o : List Int} {i k : Nat} {d : Nde} (ho : o[i]? = some (k : Int)) (hd : L[k]? = some d) (a : Nat) : lyB L P a (o.drop i) = ndB P a d ++ lyB L P (a + szN d) (o.drop (i + 1)) ∧ wsum L (o.drop i) = szN d + wsum L (o.drop (i + 1)) ∧ (LayOk L P a (o.drop i) → NdLay P a d ∧ LayOk L P (a + szN d) (o.drop (i + 1))) := by
  obtain ⟨hi, he⟩ := List.getElem?_eq_some_iff.mp ho
  have e : L.getD k ⟨0, []⟩ = d := by rw [List.getD_eq_getElem?_getD, hd]; rfl
  rw [List.drop_eq_getElem_cons hi, he]
  refine ⟨?_, ?_, ?_⟩
  · show ndB P a (L.getD (k : Int).toNat ⟨0, []⟩) ++ lyB L P (a + szN (L.getD (k : Int).toNat ⟨0, []⟩)) _ = _
    rw [Int.toNat_natCast, e]
  · show szN (L.getD (k : Int).toNat ⟨0, []⟩) + _ = _
    rw [Int.toNat_natCast, e]
  · rintro ⟨⟨d', h1, -, h2⟩, h3⟩
    rw [Int.toNat_natCast] at h1 h3
    rw [e] at h3
    rw [hd] at h1
    cases h1
    exact ⟨h2, h3⟩
theorem lay_in {L : List Nde} {P : List Int} : ∀ {o : List Int} {a : Nat}, LayOk L P a o → ∀ (i : Nat) (x : Int), o[i]? = some x → ∃ k d, x = ((k : Nat) : Int) ∧ L[k]? = some d
  | [], a, h, i, x, hx => by simp at hx
  | k :: o, a, h, i, x, hx => by
    cases i with
    | zero =>
      simp at hx
      subst hx
      obtain ⟨d, h1, h2, -⟩ := h.1
      exact ⟨k.toNat, d, by omega, h1⟩
    | succ i => exact lay_in h.2 i x (by simpa using hx)
theorem lyB_len {L : List Nde} {P : List Int} : ∀ {o : List Int} {a : Nat}, LayOk L P a o → (lyB L P a o).length = 4 * wsum L o
  | [], a, h => rfl
  | k :: o, a, h => by
    obtain ⟨⟨d, h1, h2, h3⟩, h4⟩ := h
    have e : L.getD k.toNat ⟨0, []⟩ = d := by rw [List.getD_eq_getElem?_getD, h1]; rfl
    show (ndB P a (L.getD k.toNat ⟨0, []⟩) ++ lyB L P _ o).length = 4 * (szN (L.getD k.toNat ⟨0, []⟩) + wsum L o)
    rw [List.length_append, lyB_len h4, e, ndB_len h3]
    omega
set_option maxRecDepth 20000 in
set_option maxHeartbeats 8000000 in
theorem lay_any (w0 : World) (v vo vp : Value) (L : List Nde) (o P : List Int) (n : Nat) (w : World) (hb : Below w0.heap.size w0 w) (hv : RwD w0 v L) (hvo : w.ownsRow w0.heap.size 3 1 vo o.length (o.map cI)) (hvp : w.ownsRow w0.heap.size 3 1 vp P.length (P.map cI)) (hl : L.length ≤ 1000000000) (hr : ∀ d ∈ L, d.r.length ≤ 1000000000) (hol : o.length ≤ 1000000000) (hlay : LayOk L P 0 o) (hn : wsum L o = n) (hn1 : n ≤ 1048576) :
    Calls Try.prog 23 #[v, .agg #[vo, vp, .int .i64 (n : Int)]] w fun e w' => ∃ v', e = .returned v' ∧ w'.ownsRow w0.heap.size 5 1 v' (lyB L P 0 o).length ((lyB L P 0 o).map cB) ∧ Below w0.heap.size w0 w' := by
  obtain ⟨i0, hi, hz0, hz1, hz2⟩ := info13 Try.infoB13
  obtain ⟨B, hB⟩ : ∃ B, B = lyB L P 0 o := ⟨_, rfl⟩
  rw [← hB]
  have HBf := hid13 hB.symm
  obtain ⟨cp, hcp⟩ : ∃ cp, cp = 4 * n := ⟨_, rfl⟩
  have HCp := hid13 hcp
  have hmk : ∀ w : World, (Instr.makeSlice 27 (.int .i64 0) (.int .i64 (cp : Int))).run Try.prog w = .ok (.slice (some ⟨w.heap.size, 0, none⟩) 0 cp) (w.alloc (.cells (madeCells (Value.int IntKind.u8 0).cells (cp * i0.size)) 5)) := by
    intro w
    have := run_make (P := Try.prog) w 27 5 i0 (.int .u8 0) Try.underlying27 hi hz0 .i64 .i64 0 (cp : Int) (by omega) (by omega) (by rw [hz2]; omega) (by omega)
    rw [Int.toNat_natCast] at this
    exact this
  obtain ⟨O1, hO1⟩ : ∃ O : Obj, O = .cells (madeCells (Value.int IntKind.u8 0).cells (cp * i0.size)) 5 := ⟨_, rfl⟩
  rw [← hO1] at hmk
  have HO1 := hid13 hO1
  obtain ⟨oa, oc, hvof⟩ := own_form hvo
  obtain ⟨pa, pc, hvpf⟩ := own_form hvp
  subst hvof hvpf
  have mw : IntKind.i64.wrap ((n : Int) * 4) = (cp : Int) := by rw [IntKind.wrap_i64]; omega
  have HVO := hid13 hvo
  have HVP := hid13 hvp
  have HB := hid13 hb
  have HS : Hid (L.length ≤ 1000000000 ∧ (∀ d ∈ L, d.r.length ≤ 1000000000) ∧ o.length ≤ 1000000000 ∧ LayOk L P 0 o ∧ wsum L o = n ∧ n ≤ 1048576) := ⟨hl, hr, hol, hlay, hn, hn1⟩
  have HV := hid13 hv
  obtain ⟨la, lc, hvf, -, hrow⟩ := id hv
  subst hvf
  clear hcp hO1 hvo hvp hb hr hlay hn hB hv hrow
  go_enter Try.func23, Try.ntmps23
  go_wp2_with fail
  go_region
  · have HL0 : Hid (LdV w0 (w.heap.size + 1 + 1) (w.heap.size + 1) cp [] (.slice pa P.length pc) P (((w.alloc (.cells #[.slice oa o.length oc, .slice pa P.length pc, .int .i64 (n : Int)] 58)).alloc O1).alloc (.cells #[.slice (some ⟨w.heap.size + 1, 0, none⟩) 0 cp, .slice pa P.length pc] 91)).drew) := hid13 (by
      have hc : (((w.alloc (.cells #[.slice oa o.length oc, .slice pa P.length pc, .int .i64 (n : Int)] 58)).alloc O1).alloc (.cells #[.slice (some ⟨w.heap.size + 1, 0, none⟩) 0 cp, .slice pa P.length pc] 91)).heap[w.heap.size + 1 + 1]? = some (.cells #[.slice (some ⟨w.heap.size + 1, 0, none⟩) 0 cp, .slice pa P.length pc] 91) := by
        have := new_16 ((w.alloc (.cells #[.slice oa o.length oc, .slice pa P.length pc, .int .i64 (n : Int)] 58)).alloc O1) (.cells #[.slice (some ⟨w.heap.size + 1, 0, none⟩) 0 cp, .slice pa P.length pc] 91)
        simpa using this
      have hg : (((w.alloc (.cells #[.slice oa o.length oc, .slice pa P.length pc, .int .i64 (n : Int)] 58)).alloc O1).alloc (.cells #[.slice (some ⟨w.heap.size + 1, 0, none⟩) 0 cp, .slice pa P.length pc] 91)).heap[w.heap.size + 1]? = some (.cells (madeCells (Value.int IntKind.u8 0).cells (cp * i0.size)) 5) := by
        have := new_16 (w.alloc (.cells #[.slice oa o.length oc, .slice pa P.length pc, .int .i64 (n : Int)] 58)) O1
        simp only [World.size_alloc] at this
        have := old_16 (.cells #[.slice (some ⟨w.heap.size + 1, 0, none⟩) 0 cp, .slice pa P.length pc] 91) this
        exact this.trans (congrArg some HO1.out)
      refine ⟨hc, ⟨rfl, .inr ⟨w.heap.size + 1, cp, madeCells (Value.int IntKind.u8 0).cells (cp * i0.size), rfl, by have := HB.out.size; omega, hg, Nat.zero_le _, by have := HCp.out; unfold maxLen; omega, by rw [size_madeCells, hz1], rfl⟩⟩, ?_, ?_, by have := HB.out.size; omega, by have := HB.out.size; omega, by omega, ?_⟩
      · exact own_b13 (bl3 w (.cells #[.slice oa o.length oc, .slice pa P.length pc, .int .i64 (n : Int)] 58) O1 (.cells #[.slice (some ⟨w.heap.size + 1, 0, none⟩) 0 cp, .slice pa P.length pc] 91)).drew HVP.out
      · exact (keepb (bl3 w (.cells #[.slice oa o.length oc, .slice pa P.length pc, .int .i64 (n : Int)] 58) O1 (.cells #[.slice (some ⟨w.heap.size + 1, 0, none⟩) 0 cp, .slice pa P.length pc] 91)) HB.out).drew
      · intro z hz
        have := (HVP.out.lt z hz).2
        omega)
    have x0 : (((w.alloc (.cells #[.slice oa o.length oc, .slice pa P.length pc, .int .i64 (n : Int)] 58)).alloc O1).alloc (.cells #[.slice (some ⟨w.heap.size + 1, 0, none⟩) 0 cp, .slice pa P.length pc] 91)).drew.cell? ⟨w.heap.size, 0, none⟩ = some (.slice oa o.length oc) := keepc (b := w.heap.size) (bl2 (w.alloc (.cells #[.slice oa o.length oc, .slice pa P.length pc, .int .i64 (n : Int)] 58)) O1 (.cells #[.slice (some ⟨w.heap.size + 1, 0, none⟩) 0 cp, .slice pa P.length pc] 91)) (by simp [go_sem])
    have HOo : Hid ((((w.alloc (.cells #[.slice oa o.length oc, .slice pa P.length pc, .int .i64 (n : Int)] 58)).alloc O1).alloc (.cells #[.slice (some ⟨w.heap.size + 1, 0, none⟩) 0 cp, .slice pa P.length pc] 91)).drew.ownsRow w0.heap.size 3 1 (.slice oa o.length oc) o.length (o.map cI)) := own_b13 (bl3 w (.cells #[.slice oa o.length oc, .slice pa P.length pc, .int .i64 (n : Int)] 58) O1 (.cells #[.slice (some ⟨w.heap.size + 1, 0, none⟩) 0 cp, .slice pa P.length pc] 91)).drew HVO.out
    have HNz : Hid (∀ z, (Value.slice oa o.length oc).ownBlock = some z → z ≠ w.heap.size + 1 + 1 ∧ z ≠ w.heap.size + 1) := hid13 (fun z hz => by
      have := (HVO.out.lt z hz).2
      omega)
    clear HO1 HVO HVP hmk mw
    revert HL0 x0 HOo HNz
    generalize (((w.alloc (.cells #[.slice oa o.length oc, .slice pa P.length pc, .int .i64 (n : Int)] 58)).alloc O1).alloc (.cells #[.slice (some ⟨w.heap.size + 1, 0, none⟩) 0 cp, .slice pa P.length pc] 91)).drew = W0
    generalize w.heap.size + 1 + 1 = C
    generalize w.heap.size + 1 = G
    intro HL0 x0 HOo HNz
    go_wp2_with fail
    clear x0
    go_loopw [18] (fun x18 wr => ∃ (i : Nat), x18 = .int .i64 (i : Int) ∧ Hid (i ≤ o.length ∧ ∃ (a : Nat) (cd : List Nat), cd.length = 4 * a ∧ a + wsum L (o.drop i) = n ∧ LayOk L P a (o.drop i) ∧ cd ++ lyB L P a (o.drop i) = B ∧ LdV w0 C G cp cd (.slice pa P.length pc) P wr ∧ wr.ownsRow w0.heap.size 3 1 (.slice oa o.length oc) o.length (o.map cI))) (fun x18 _ => o.length - (intOf x18).toNat)
    case atStart => exact ⟨0, rfl, hid13 ⟨Nat.zero_le _, 0, [], rfl, by have := HS.out.2.2.2.2.1; simpa using this, HS.out.2.2.2.1, HBf.out, HL0.out, HOo.out⟩⟩
    case round =>
      clear HL0 HOo
      obtain ⟨i, rfl, HI⟩ := hrel
      obtain ⟨hil, a, cd, HI2⟩ := HI.out
      replace HI2 := hid13 HI2
      clear HI
      by_cases hlt : i < o.length
      · have hli : (i : Int) < (o.length : Int) := by omega
        obtain ⟨x, hx⟩ : ∃ x, o[i]? = some x := ⟨o[i], by simp [hlt]⟩
        obtain ⟨k, d, hxk, hd⟩ := lay_in HS.out.2.2.2.1 i x hx
        subst hxk
        obtain ⟨t1, t2, t3⟩ := ly_drop (P := P) hx hd a
        obtain ⟨hnl, hrest⟩ := t3 HI2.out.2.2.1
        have HT : Hid (a + szN d + wsum L (o.drop (i + 1)) = n ∧ LayOk L P (a + szN d) (o.drop (i + 1)) ∧ (cd ++ ndB P a d) ++ lyB L P (a + szN d) (o.drop (i + 1)) = B) := ⟨by have := HI2.out.2.1; omega, hrest, by rw [List.append_assoc, ← t1]; exact HI2.out.2.2.2.1⟩
        have HLn := hid13 (ndB_len hnl)
        have hkL : k < L.length := (List.getElem?_eq_some_iff.mp hd).1
        have hki : (k : Int) < (L.length : Int) := by omega
        obtain ⟨bb, off, hla, hcell⟩ : ∃ b off, la = some ⟨b, off, none⟩ ∧ ∀ j d, L[j]? = some d → ∃ vr, w0.cell? ⟨b, off + j * 2, none⟩ = some (.int .i64 d.b) ∧ w0.cell? ⟨b, off + j * 2 + 1, none⟩ = some vr ∧ RwN w0 vr d.r := by
          obtain ⟨ao', c', e, hc', hr'⟩ := HV.out
          injection e with e1 e2 e3
          subst e1
          rcases hr' with h | h
          · rw [h] at hkL; simp at hkL
          · exact h
        obtain ⟨vr, y0, y1, hRn⟩ := hcell k d hd
        have y0 := keepc HI2.out.2.2.2.2.1.b y0
        have y1 := keepc HI2.out.2.2.2.2.1.b y1
        obtain ⟨g0, ho0⟩ : ∃ g0, oa = some ⟨g0, 0, none⟩ := by
          rcases HI2.out.2.2.2.2.2.2 with ⟨h1, h2⟩ | ⟨g, cap, cur, h1, -⟩
          · rw [h2] at hlt; omega
          · injection h1 with h1; exact ⟨g, h1⟩
        subst ho0
        have o0 := (own_cell16 HI2.out.2.2.2.2.2 hx).1
        have KN := node_any w0 C G cp cd (.slice pa P.length pc) P d vr wr HI2.out.2.2.2.2.1 hRn (HS.out.2.1 d (List.mem_of_getElem? hd)) a HI2.out.1 hnl (by have := HI2.out.1; have := HT.out.1; have := HCp.out; omega) (by have := HCp.out; have := HS.out.2.2.2.2.2; omega)
        have HCd : Hid (cd.length = 4 * a) := HI2.out.1
        have HOw := hid13 HI2.out.2.2.2.2.2
        have HJ : Hid (i < o.length ∧ o.length ≤ 1000000000) := ⟨hlt, hol⟩
        have mi : IntKind.i64.wrap ((i : Int) + 1) = ((i + 1 : Nat) : Int) := by rw [IntKind.wrap_i64]; push_cast; omega
        obtain ⟨vo2, vc2, hvr, -⟩ := hRn
        subst hla
        subst hvr
        obtain ⟨db, dr⟩ := d
        dsimp only at KN y0 y1
        clear hx hd t1 t2 t3 hnl hrest hcell hlt HI2
        go_wp2_with fail
        refine KN.mono ?_
        rintro e w3 ⟨rfl, hL3, hX3⟩
        have HL3 := hid13 hL3
        have HO3 : Hid (w3.ownsRow w0.heap.size 3 1 (.slice (some ⟨g0, 0, none⟩) o.length oc) o.length (o.map cI)) := hid13 (by
          have h := HOw.out
          refine ⟨h.1, ?_⟩
          rcases h.2 with h1 | ⟨g, cap, cur, e, h1, h2, h3⟩
          · exact .inl h1
          · refine .inr ⟨g, cap, cur, e, h1, (hX3.2 g (lt_16 h2) (fun q => ?_)).trans h2, h3⟩
            have := HNz.out g (by rw [e]; rfl)
            rcases q with q | q
            · exact this.1 q
            · exact this.2 q)
        have HC3 : Hid ((cd ++ ndB P a ⟨db, dr⟩).length = 4 * (a + szN ⟨db, dr⟩)) := by show _ = _; rw [List.length_append, HLn.out, HCd.out]; omega
        clear KN hL3 hX3 y0 y1 o0 HOw
        go_wp2
        go_roundw
        case rel => exact ⟨i + 1, by first | rfl | simp, hid13 ⟨by have := HJ.out; omega, _, _, HC3.out, HT.out.1, HT.out.2.1, HT.out.2.2, HL3.out, HO3.out⟩⟩
        case measure => have := HJ.out; first | (simp [intOf]; done) | (simp [intOf]; omega) | (unfold intOf; simp; omega)
      · have hli : ¬ (i : Int) < (o.length : Int) := by omega
        have hE : cd = B := by have := HI2.out.2.2.2.1; rw [List.drop_eq_nil_of_le (by omega)] at this; simpa [lyB] using this
        subst hE
        have HLe := hid13 HI2.out.2.2.2.2.1
        have c0 := at_16 HLe.out.c 0 _ rfl
        clear HI2
        go_wp2
        exact bodyPost_ret (v := .slice (some ⟨G, 0, none⟩) cd.length cp) (by simp [results, Try.results23, go_sem]) rfl ⟨_, rfl, HLe.out.o, HLe.out.b⟩
  · have HL0 : Hid (LdV w0 (w.heap.size + 1) (w.heap.size + 1 + 1) cp [] (.slice pa P.length pc) P (((w.alloc (.cells #[.slice oa o.length oc, .slice pa P.length pc, .int .i64 (n : Int)] 58)).alloc (.cells #[.slice (some ⟨w.heap.size + 1 + 1, 0, none⟩) 0 cp, .slice pa P.length pc] 91)).alloc O1).drew) := hid13 (by
      have hc : (((w.alloc (.cells #[.slice oa o.length oc, .slice pa P.length pc, .int .i64 (n : Int)] 58)).alloc (.cells #[.slice (some ⟨w.heap.size + 1 + 1, 0, none⟩) 0 cp, .slice pa P.length pc] 91)).alloc O1).heap[w.heap.size + 1]? = some (.cells #[.slice (some ⟨w.heap.size + 1 + 1, 0, none⟩) 0 cp, .slice pa P.length pc] 91) := by
        have := new_16 (w.alloc (.cells #[.slice oa o.length oc, .slice pa P.length pc, .int .i64 (n : Int)] 58)) (.cells #[.slice (some ⟨w.heap.size + 1 + 1, 0, none⟩) 0 cp, .slice pa P.length pc] 91)
        simp only [World.size_alloc] at this
        exact old_16 O1 this
      have hg : (((w.alloc (.cells #[.slice oa o.length oc, .slice pa P.length pc, .int .i64 (n : Int)] 58)).alloc (.cells #[.slice (some ⟨w.heap.size + 1 + 1, 0, none⟩) 0 cp, .slice pa P.length pc] 91)).alloc O1).heap[w.heap.size + 1 + 1]? = some (.cells (madeCells (Value.int IntKind.u8 0).cells (cp * i0.size)) 5) := by
        have := new_16 ((w.alloc (.cells #[.slice oa o.length oc, .slice pa P.length pc, .int .i64 (n : Int)] 58)).alloc (.cells #[.slice (some ⟨w.heap.size + 1 + 1, 0, none⟩) 0 cp, .slice pa P.length pc] 91)) O1
        simp only [World.size_alloc] at this
        exact this.trans (congrArg some HO1.out)
      refine ⟨hc, ⟨rfl, .inr ⟨w.heap.size + 1 + 1, cp, madeCells (Value.int IntKind.u8 0).cells (cp * i0.size), rfl, by have := HB.out.size; omega, hg, Nat.zero_le _, by have := HCp.out; unfold maxLen; omega, by rw [size_madeCells, hz1], rfl⟩⟩, ?_, ?_, by have := HB.out.size; omega, by have := HB.out.size; omega, by omega, ?_⟩
      · exact own_b13 (bl3 w (.cells #[.slice oa o.length oc, .slice pa P.length pc, .int .i64 (n : Int)] 58) (.cells #[.slice (some ⟨w.heap.size + 1 + 1, 0, none⟩) 0 cp, .slice pa P.length pc] 91) O1).drew HVP.out
      · exact (keepb (bl3 w (.cells #[.slice oa o.length oc, .slice pa P.length pc, .int .i64 (n : Int)] 58) (.cells #[.slice (some ⟨w.heap.size + 1 + 1, 0, none⟩) 0 cp, .slice pa P.length pc] 91) O1) HB.out).drew
      · intro z hz
        have := (HVP.out.lt z hz).2
        omega)
    have x0 : (((w.alloc (.cells #[.slice oa o.length oc, .slice pa P.length pc, .int .i64 (n : Int)] 58)).alloc (.cells #[.slice (some ⟨w.heap.size + 1 + 1, 0, none⟩) 0 cp, .slice pa P.length pc] 91)).alloc O1).drew.cell? ⟨w.heap.size, 0, none⟩ = some (.slice oa o.length oc) := keepc (b := w.heap.size) (bl2 (w.alloc (.cells #[.slice oa o.length oc, .slice pa P.length pc, .int .i64 (n : Int)] 58)) (.cells #[.slice (some ⟨w.heap.size + 1 + 1, 0, none⟩) 0 cp, .slice pa P.length pc] 91) O1) (by simp [go_sem])
    have HOo : Hid ((((w.alloc (.cells #[.slice oa o.length oc, .slice pa P.length pc, .int .i64 (n : Int)] 58)).alloc (.cells #[.slice (some ⟨w.heap.size + 1 + 1, 0, none⟩) 0 cp, .slice pa P.length pc] 91)).alloc O1).drew.ownsRow w0.heap.size 3 1 (.slice oa o.length oc) o.length (o.map cI)) := own_b13 (bl3 w (.cells #[.slice oa o.length oc, .slice pa P.length pc, .int .i64 (n : Int)] 58) (.cells #[.slice (some ⟨w.heap.size + 1 + 1, 0, none⟩) 0 cp, .slice pa P.length pc] 91) O1).drew HVO.out
    have HNz : Hid (∀ z, (Value.slice oa o.length oc).ownBlock = some z → z ≠ w.heap.size + 1 ∧ z ≠ w.heap.size + 1 + 1) := hid13 (fun z hz => by
      have := (HVO.out.lt z hz).2
      omega)
    clear HO1 HVO HVP hmk mw
    revert HL0 x0 HOo HNz
    generalize (((w.alloc (.cells #[.slice oa o.length oc, .slice pa P.length pc, .int .i64 (n : Int)] 58)).alloc (.cells #[.slice (some ⟨w.heap.size + 1 + 1, 0, none⟩) 0 cp, .slice pa P.length pc] 91)).alloc O1).drew = W0
    generalize w.heap.size + 1 + 1 = G
    generalize w.heap.size + 1 = C
    intro HL0 x0 HOo HNz
    go_wp2_with fail
    clear x0
    go_loopw [18] (fun x18 wr => ∃ (i : Nat), x18 = .int .i64 (i : Int) ∧ Hid (i ≤ o.length ∧ ∃ (a : Nat) (cd : List Nat), cd.length = 4 * a ∧ a + wsum L (o.drop i) = n ∧ LayOk L P a (o.drop i) ∧ cd ++ lyB L P a (o.drop i) = B ∧ LdV w0 C G cp cd (.slice pa P.length pc) P wr ∧ wr.ownsRow w0.heap.size 3 1 (.slice oa o.length oc) o.length (o.map cI))) (fun x18 _ => o.length - (intOf x18).toNat)
    case atStart => exact ⟨0, rfl, hid13 ⟨Nat.zero_le _, 0, [], rfl, by have := HS.out.2.2.2.2.1; simpa using this, HS.out.2.2.2.1, HBf.out, HL0.out, HOo.out⟩⟩
    case round =>
      clear HL0 HOo
      obtain ⟨i, rfl, HI⟩ := hrel
      obtain ⟨hil, a, cd, HI2⟩ := HI.out
      replace HI2 := hid13 HI2
      clear HI
      by_cases hlt : i < o.length
      · have hli : (i : Int) < (o.length : Int) := by omega
        obtain ⟨x, hx⟩ : ∃ x, o[i]? = some x := ⟨o[i], by simp [hlt]⟩
        obtain ⟨k, d, hxk, hd⟩ := lay_in HS.out.2.2.2.1 i x hx
        subst hxk
        obtain ⟨t1, t2, t3⟩ := ly_drop (P := P) hx hd a
        obtain ⟨hnl, hrest⟩ := t3 HI2.out.2.2.1
        have HT : Hid (a + szN d + wsum L (o.drop (i + 1)) = n ∧ LayOk L P (a + szN d) (o.drop (i + 1)) ∧ (cd ++ ndB P a d) ++ lyB L P (a + szN d) (o.drop (i + 1)) = B) := ⟨by have := HI2.out.2.1; omega, hrest, by rw [List.append_assoc, ← t1]; exact HI2.out.2.2.2.1⟩
        have HLn := hid13 (ndB_len hnl)
        have hkL : k < L.length := (List.getElem?_eq_some_iff.mp hd).1
        have hki : (k : Int) < (L.length : Int) := by omega
        obtain ⟨bb, off, hla, hcell⟩ : ∃ b off, la = some ⟨b, off, none⟩ ∧ ∀ j d, L[j]? = some d → ∃ vr, w0.cell? ⟨b, off + j * 2, none⟩ = some (.int .i64 d.b) ∧ w0.cell? ⟨b, off + j * 2 + 1, none⟩ = some vr ∧ RwN w0 vr d.r := by
          obtain ⟨ao', c', e, hc', hr'⟩ := HV.out
          injection e with e1 e2 e3
          subst e1
          rcases hr' with h | h
          · rw [h] at hkL; simp at hkL
          · exact h
        obtain ⟨vr, y0, y1, hRn⟩ := hcell k d hd
        have y0 := keepc HI2.out.2.2.2.2.1.b y0
        have y1 := keepc HI2.out.2.2.2.2.1.b y1
        obtain ⟨g0, ho0⟩ : ∃ g0, oa = some ⟨g0, 0, none⟩ := by
          rcases HI2.out.2.2.2.2.2.2 with ⟨h1, h2⟩ | ⟨g, cap, cur, h1, -⟩
          · rw [h2] at hlt; omega
          · injection h1 with h1; exact ⟨g, h1⟩
        subst ho0
        have o0 := (own_cell16 HI2.out.2.2.2.2.2 hx).1
        have KN := node_any w0 C G cp cd (.slice pa P.length pc) P d vr wr HI2.out.2.2.2.2.1 hRn (HS.out.2.1 d (List.mem_of_getElem? hd)) a HI2.out.1 hnl (by have := HI2.out.1; have := HT.out.1; have := HCp.out; omega) (by have := HCp.out; have := HS.out.2.2.2.2.2; omega)
        have HCd : Hid (cd.length = 4 * a) := HI2.out.1
        have HOw := hid13 HI2.out.2.2.2.2.2
        have HJ : Hid (i < o.length ∧ o.length ≤ 1000000000) := ⟨hlt, hol⟩
        have mi : IntKind.i64.wrap ((i : Int) + 1) = ((i + 1 : Nat) : Int) := by rw [IntKind.wrap_i64]; push_cast; omega
        obtain ⟨vo2, vc2, hvr, -⟩ := hRn
        subst hla
        subst hvr
        obtain ⟨db, dr⟩ := d
        dsimp only at KN y0 y1
        clear hx hd t1 t2 t3 hnl hrest hcell hlt HI2
        go_wp2_with fail
        refine KN.mono ?_
        rintro e w3 ⟨rfl, hL3, hX3⟩
        have HL3 := hid13 hL3
        have HO3 : Hid (w3.ownsRow w0.heap.size 3 1 (.slice (some ⟨g0, 0, none⟩) o.length oc) o.length (o.map cI)) := hid13 (by
          have h := HOw.out
          refine ⟨h.1, ?_⟩
          rcases h.2 with h1 | ⟨g, cap, cur, e, h1, h2, h3⟩
          · exact .inl h1
          · refine .inr ⟨g, cap, cur, e, h1, (hX3.2 g (lt_16 h2) (fun q => ?_)).trans h2, h3⟩
            have := HNz.out g (by rw [e]; rfl)
            rcases q with q | q
            · exact this.1 q
            · exact this.2 q)
        have HC3 : Hid ((cd ++ ndB P a ⟨db, dr⟩).length = 4 * (a + szN ⟨db, dr⟩)) := by show _ = _; rw [List.length_append, HLn.out, HCd.out]; omega
        clear KN hL3 hX3 y0 y1 o0 HOw
        go_wp2
        go_roundw
        case rel => exact ⟨i + 1, by first | rfl | simp, hid13 ⟨by have := HJ.out; omega, _, _, HC3.out, HT.out.1, HT.out.2.1, HT.out.2.2, HL3.out, HO3.out⟩⟩
        case measure => have := HJ.out; first | (simp [intOf]; done) | (simp [intOf]; omega) | (unfold intOf; simp; omega)
      · have hli : ¬ (i : Int) < (o.length : Int) := by omega
        have hE : cd = B := by have := HI2.out.2.2.2.1; rw [List.drop_eq_nil_of_le (by omega)] at this; simpa [lyB] using this
        subst hE
        have HLe := hid13 HI2.out.2.2.2.2.1
        have c0 := at_16 HLe.out.c 0 _ rfl
        clear HI2
        go_wp2
        exact bodyPost_ret (v := .slice (some ⟨G, 0, none⟩) cd.length cp) (by simp [results, Try.results23, go_sem]) rfl ⟨_, rfl, HLe.out.o, HLe.out.b⟩
end Go.Proofs.Ytdpmhpmnkollaaa
namespace Go.Proofs.Ytdpmhpmnkollaaa
set_option linter.unusedSimpArgs false
set_option linter.unusedVariables false

theorem cmp_neg {x y : BitVec 128} : cmpZ x y < 0 ↔ x.toNat < y.toNat := by
  unfold cmpZ
  by_cases h : x.toNat < y.toNat
  · rw [if_pos h]; simp [h]
  · rw [if_neg h]
    constructor
    · intro q; split at q <;> omega
    · intro q; exact absurd q h
theorem adj_rise : ∀ (l : List Rn), adjG l = true → ∀ (i j : Nat) (a b : Rn), i < j → l[i]? = some a → l[j]? = some b → a.f.toNat < b.f.toNat
  | [], _, i, j, a, b, _, ha, _ => by simp at ha
  | [x], _, i, j, a, b, hij, ha, hb => by
    cases j with
    | zero => omega
    | succ j => simp at hb
  | x :: y :: t, h, i, j, a, b, hij, ha, hb => by
    unfold adjG at h
    simp only [Bool.and_eq_true, decide_eq_true_eq] at h
    have hxy := cmp_neg.1 h.1.1
    cases j with
    | zero => omega
    | succ j =>
      have hb' : (y :: t)[j]? = some b := by simpa using hb
      cases i with
      | zero =>
        simp at ha
        subst ha
        cases j with
        | zero => simp at hb'; subst hb'; exact hxy
        | succ j =>
          have := adj_rise (y :: t) h.2 0 (j + 1) y b (by omega) rfl hb'
          omega
      | succ i => exact adj_rise (y :: t) h.2 i j a b (by omega) (by simpa using ha) hb'
structure IoOk (d : Nde) : Prop where
  ne : d.r ≠ []
  z : ∀ r, d.r[0]? = some r → r.f = 0#128
  rise : ∀ (i j : Nat) (a b : Rn), i < j → d.r[i]? = some a → d.r[j]? = some b → a.f.toNat < b.f.toNat
  lt : ∀ r ∈ d.r, r.f.toNat < 2 ^ d.b.toNat
theorem io_ok {d : Nde} (h : ioB d = true) : IoOk d := by
  obtain ⟨b, l⟩ := d
  have hne : l ≠ [] := by rintro rfl; rw [io_nil] at h; cases h
  have hp := List.length_pos_iff.mpr hne
  rw [io_one b l hne] at h
  simp only [Bool.and_eq_true, beq_iff_eq] at h
  obtain ⟨h1, h2, h3⟩ := h
  have hr := adj_rise l h2
  have hlast : (l[l.length - 1]'(by omega)).f.toNat < 2 ^ b.toNat := by
    have e := congrArg BitVec.toNat h3
    rw [BitVec.toNat_ushiftRight, Nat.shiftRight_eq_div_pow] at e
    have e0 : (0#128).toNat = 0 := rfl
    rw [e0] at e
    rcases Nat.div_eq_zero_iff.mp e with q | q
    · have : (0 : Nat) < 2 ^ b.toNat := Nat.two_pow_pos _
      omega
    · exact q
  refine ⟨hne, fun r hr0 => ?_, hr, fun r hrm => ?_⟩
  · dsimp only at hr0
    rw [List.getElem?_eq_getElem hp] at hr0
    cases hr0
    exact h1
  · dsimp only at hrm ⊢
    obtain ⟨i, hi⟩ := List.getElem?_of_mem hrm
    have hil := (List.getElem?_eq_some_iff.mp hi).1
    by_cases hc : i = l.length - 1
    · subst hc
      rw [List.getElem?_eq_getElem hil] at hi
      cases hi
      exact hlast
    · have := hr i (l.length - 1) r _ (by omega) hi (List.getElem?_eq_getElem (by omega))
      omega
theorem io_zero {d : Nde} (h : IoOk d) (hb : d.b = 0) : d.r.length = 1 := by
  have hp := List.length_pos_iff.mpr h.ne
  by_cases hc : d.r.length = 1
  · exact hc
  · have h1 : 1 < d.r.length := by omega
    have := h.rise 0 1 _ _ (by omega) (List.getElem?_eq_getElem hp) (List.getElem?_eq_getElem h1)
    have h2 := h.lt _ (List.getElem_mem h1)
    rw [hb] at h2
    simp at h2
    omega
theorem stM_head (m : List (BitVec 32)) (s : Nat) (hm : m ≠ []) (i : Nat) (hi : i < 32) : ((stM16 m s).headD 0#32).getLsbD i = ((m.headD 0#32).getLsbD i || decide (s + i = 31)) := by
  obtain ⟨x, t, rfl⟩ := List.exists_cons_of_ne_nil hm
  unfold stM16
  by_cases hs : s / 32 = 0
  · rw [hs]
    have h2 : s < 32 := by omega
    simp only [List.set_cons_zero, List.headD_cons, List.getD_cons_zero]
    rw [BitVec.getLsbD_or, BitVec.getLsbD_shiftLeft, Nat.mod_eq_of_lt h2]
    have e1 : (1#32).getLsbD (i - (31 - s)) = decide (i - (31 - s) = 0) := by
      cases hh : i - (31 - s) with
      | zero => rfl
      | succ k =>
        have : (1#32).getLsbD (k + 1) = false := by
          rw [BitVec.getLsbD_ofNat]
          have : Nat.testBit 1 (k + 1) = false := by
            cases hq : Nat.testBit 1 (k + 1) with
            | false => rfl
            | true => exact absurd (Nat.testBit_one_eq_true_iff_self_eq_zero.mp hq) (by omega)
          rw [this]; simp
        rw [this]; simp
    rw [e1]
    congr 1
    by_cases c : s + i = 31
    · rw [decide_eq_true c, decide_eq_true hi, decide_eq_false (by omega : ¬ i < 31 - s), decide_eq_true (by omega : i - (31 - s) = 0)]; rfl
    · rw [decide_eq_false c]
      by_cases c2 : i < 31 - s
      · rw [decide_eq_true c2]; simp
      · rw [decide_eq_false (by omega : ¬ i - (31 - s) = 0)]; simp
  · obtain ⟨k, hk⟩ : ∃ k, s / 32 = k + 1 := ⟨s / 32 - 1, by omega⟩
    rw [hk]
    simp only [List.set_cons_succ, List.headD_cons]
    rw [decide_eq_false (by omega : ¬ s + i = 31), Bool.or_false]
theorem map_head : ∀ (l : List Rn) (m : List (BitVec 32)) (hm : m ≠ []) (i : Nat) (hi : i < 32), ((l.foldl (fun m r => stM16 m r.f.toNat) m).headD 0#32).getLsbD i = ((m.headD 0#32).getLsbD i || l.any fun r => decide (r.f.toNat + i = 31))
  | [], m, hm, i, hi => by simp
  | r :: l, m, hm, i, hi => by
    rw [List.foldl_cons, map_head l (stM16 m r.f.toNat) (by intro e; have := congrArg List.length e; rw [stM_len] at this; exact hm (List.eq_nil_of_length_eq_zero this)) i hi, stM_head m _ hm i hi, List.any_cons, Bool.or_assoc]
theorem map_ok {d : Nde} (h : IoOk d) (n : Nat) (hn : d.b = (n : Int)) (h1 : n ≤ 24) : isMapB (mapL n d.r) n = true := by
  have hrep : List.replicate (mwN n) (0#32) ≠ [] := by
    intro e
    have := congrArg List.length e
    simp at this
    have := mwN_lo n
    omega
  have hb : ∀ i, i < 32 → ((mapL n d.r).headD 0#32).getLsbD i = d.r.any fun r => decide (r.f.toNat + i = 31) := by
    intro i hi
    unfold mapL
    rw [map_head d.r _ hrep i hi]
    obtain ⟨k, hk⟩ : ∃ k, mwN n = k + 1 := ⟨mwN n - 1, by have := mwN_lo n; omega⟩
    rw [hk, List.replicate_succ]
    simp
  unfold isMapB
  rw [decide_eq_true (mapL_len n d.r), Bool.true_and]
  unfold topB
  have hp := List.length_pos_iff.mpr h.ne
  rw [Bool.and_eq_true, beq_iff_eq]
  constructor
  · rw [hb 31 (by omega)]
    rw [List.any_eq_true]
    refine ⟨d.r[0], List.getElem_mem hp, ?_⟩
    have := h.z _ (List.getElem?_eq_getElem hp)
    rw [this]; decide
  · apply BitVec.eq_of_getLsbD_eq
    intro i hi
    rw [BitVec.getLsbD_shiftLeft]
    by_cases c : i < 2 ^ n
    · rw [decide_eq_true c]; simp
    · rw [hb (i - 2 ^ n) (Nat.lt_of_le_of_lt (Nat.sub_le _ _) hi)]
      have hlt : ∀ r ∈ d.r, r.f.toNat < 2 ^ n := fun r hr => by have := h.lt r hr; rwa [hn, Int.toNat_natCast] at this
      generalize 2 ^ n = p at *
      have : (d.r.any fun r => decide (r.f.toNat + (i - p) = 31)) = false := by
        rw [List.any_eq_false]
        intro r hr
        have := hlt r hr
        simp only [decide_eq_true_eq]
        omega
      rw [this]; simp
structure PlOk (L : List Nde) (o P0 P : List Int) (n0 n : Nat) : Prop where
  n : n = n0 + wsum L o
  len : P.length = P0.length
  out : ∀ j : Nat, (j : Int) ∉ o → P[j]? = P0[j]?
  at' : ∀ A k B, o = A ++ k :: B → P[k.toNat]? = some ((n0 + wsum L A : Nat) : Int)
  bits : ∀ k ∈ o, (L.getD k.toNat ⟨0, []⟩).b ≤ 24
theorem pl_ok {L : List Nde} : ∀ (o P0 P : List Int) (n0 n : Nat), o.Nodup → (∀ k ∈ o, 0 ≤ k ∧ k.toNat < P0.length) → plG L o P0 n0 = some (P, n) → PlOk L o P0 P n0 n
  | [], P0, P, n0, n, _, _, h => by
    unfold plG at h
    cases h
    exact ⟨rfl, rfl, fun _ _ => rfl, fun A k B e => by simp at e, fun k hk => by cases hk⟩
  | k :: o, P0, P, n0, n, hnd, hin, h => by
    unfold plG at h
    by_cases hb : (L.getD k.toNat ⟨0, []⟩).b ≤ 24
    · rw [if_pos hb] at h
      obtain ⟨hk1, hk2⟩ := List.nodup_cons.mp hnd
      have ih := pl_ok o (P0.set k.toNat (n0 : Int)) P _ n hk2 (fun j hj => by rw [List.length_set]; exact hin j (List.mem_cons_of_mem _ hj)) h
      have h0 := hin k (List.mem_cons_self ..)
      refine ⟨by rw [ih.n]; show _ = n0 + (szN _ + wsum L o); omega, by rw [ih.len]; simp, fun j hj => ?_, fun A x B e => ?_, fun j hj => ?_⟩
      · rw [ih.out j (fun q => hj (List.mem_cons_of_mem _ q)), List.getElem?_set_ne]
        intro q
        apply hj
        rw [show (j : Int) = k by omega]
        exact List.mem_cons_self ..
      · cases A with
        | nil =>
          simp at e
          obtain ⟨e1, e2⟩ := e
          subst e1 e2
          rw [ih.out k.toNat (fun q => hk1 (by rwa [show ((k.toNat : Nat) : Int) = k by omega] at q)), List.getElem?_set_self h0.2]
          rfl
        | cons a A =>
          simp at e
          obtain ⟨e1, e2⟩ := e
          subst e1
          rw [ih.at' A x B e2]
          show some (((n0 + szN _ + wsum L A : Nat)) : Int) = some (((n0 + (szN _ + wsum L A) : Nat)) : Int)
          rw [Nat.add_assoc]
      · rcases List.mem_cons.mp hj with rfl | q
        · exact hb
        · exact ih.bits j q
    · rw [if_neg hb] at h; cases h
theorem wsum_app (L : List Nde) : ∀ (A B : List Int), wsum L (A ++ B) = wsum L A + wsum L B
  | [], B => by simp [wsum]
  | a :: A, B => by show szN _ + wsum L (A ++ B) = szN _ + wsum L A + wsum L B; rw [wsum_app L A B]; omega
theorem sz_pos (d : Nde) : 1 ≤ szN d := by unfold szN; split <;> omega
theorem nd_lay {L : List Nde} {P : List Int} {A B : List Int} {k : Nat} {d : Nde} {n : Nat} (ok : NdsOk L) (ho : OrdOk L (A ++ (k : Int) :: B)) (hd : L[k]? = some d) (hp : PlOk L (A ++ (k : Int) :: B) (List.replicate L.length 0) P 0 n) (hn : n ≤ 1048576) : NdLay P (wsum L A) d := by
  have nd := ok.2 k d hd
  have io := io_ok nd.io
  have hb : d.b ≤ 24 := by
    have := hp.bits (k : Int) (by simp)
    rw [Int.toNat_natCast, List.getD_eq_getElem?_getD, hd] at this
    exact this
  have hsz : L.getD (k : Int).toNat ⟨0, []⟩ = d := by rw [Int.toNat_natCast, List.getD_eq_getElem?_getD, hd]; rfl
  have htot : n = wsum L A + (szN d + wsum L B) := by
    rw [hp.n, Nat.zero_add, wsum_app]
    show _ + (szN (L.getD (k : Int).toNat ⟨0, []⟩) + wsum L B) = _
    rw [hsz]
  refine ⟨nd.b0, hb, io.lt, fun hz => ?_, ?_, fun hz => io_zero io hz⟩
  · obtain ⟨nb, hnb⟩ : ∃ nb : Nat, d.b = (nb : Int) := ⟨d.b.toNat, by have := nd.b0; omega⟩
    have h1 := nd.b0
    constructor
    · rw [chk_plain (by decide) (by unfold kLo kHi; simp; omega) (by decide)]; rfl
    · rw [chk_map (by decide) (by unfold kLo kHi; simp; omega) rfl, hnb, Int.toNat_natCast, map_ok io nb hnb (by omega)]; rfl
  · intro j r hr
    have hrm := List.mem_of_getElem? hr
    have hjl : j < d.r.length := (List.getElem?_eq_some_iff.mp hr).1
    have hpos : (if d.b = 0 then wsum L A else wsum L A + 2 + mwN d.b.toNat) + j < wsum L A + szN d := by
      by_cases hz : d.b = 0
      · rw [if_pos hz]
        have := io_zero io hz
        have := sz_pos d
        omega
      · rw [if_neg hz]
        unfold szN
        rw [if_neg hz]
        omega
    generalize (if d.b = 0 then wsum L A else wsum L A + 2 + mwN d.b.toNat) + j = p at *
    unfold rnO rnI
    cases hk : r.k with
    | false =>
      have := nd.hop r hrm hk
      refine ⟨?_, fun q => by cases q⟩
      simp only [Bool.false_eq_true, if_false]
      rw [chk_plain (by decide) (by unfold kLo kHi; simp; omega) (by decide)]; rfl
    | true =>
      obtain ⟨a1, a2, a3⟩ := ok.lead hd hrm hk
      have hin := ho.kid A (k : Int) B rfl d r (by rw [Int.toNat_natCast]; exact hd) hrm hk
      obtain ⟨B1, B2, hB⟩ := List.append_of_mem hin
      have hat := hp.at' (A ++ (k : Int) :: B1) r.n B2 (by rw [hB]; simp)
      rw [Nat.zero_add, wsum_app] at hat
      have hs1 : wsum L ((k : Int) :: B1) = szN d + wsum L B1 := by
        show szN (L.getD (k : Int).toNat ⟨0, []⟩) + wsum L B1 = _
        rw [hsz]
      rw [hs1] at hat
      have hs2 : wsum L B = wsum L B1 + (szN (L.getD r.n.toNat ⟨0, []⟩) + wsum L B2) := by rw [hB, wsum_app]; rfl
      have hs3 := sz_pos (L.getD r.n.toNat ⟨0, []⟩)
      simp only [if_true]
      rw [List.getD_eq_getElem?_getD, hat]
      refine ⟨?_, fun _ => ⟨r.n.toNat, _, a3, hat, by omega, by omega⟩⟩
      simp only [Option.getD_some]
      rw [chk_plain (by decide) (by unfold kLo kHi; simp; omega) (by decide)]; rfl
theorem lay_ok {L : List Nde} {P : List Int} {n : Nat} (ok : NdsOk L) (hp : plG L (ordL L) (List.replicate L.length 0) 0 = some (P, n)) (hn : n ≤ 1048576) : LayOk L P 0 (ordL L) ∧ wsum L (ordL L) = n := by
  have ho := ord_ok ok
  have hin := ord_in ok
  have pl := pl_ok (ordL L) _ P 0 n ho.nd (fun k hk => by have := hin k hk; simp; omega) hp
  refine ⟨?_, by have := pl.n; omega⟩
  generalize ordL L = o at *
  have key : ∀ (B A : List Int), o = A ++ B → LayOk L P (wsum L A) B := by
    intro B
    induction B with
    | nil => intro A _; trivial
    | cons x B ih =>
      intro A hA
      have hx := hin x (by rw [hA]; simp)
      obtain ⟨k, rfl⟩ : ∃ k : Nat, x = (k : Int) := ⟨x.toNat, by omega⟩
      obtain ⟨d, hd⟩ : ∃ d, L[k]? = some d := ⟨L[k]'(by omega), List.getElem?_eq_getElem _⟩
      subst hA
      refine ⟨⟨d, by rw [Int.toNat_natCast]; exact hd, by omega, nd_lay ok ho hd pl hn⟩, ?_⟩
      have := ih (A ++ [(k : Int)]) (by simp)
      rw [wsum_app] at this
      have e : wsum L [(k : Int)] = szN (L.getD (k : Int).toNat ⟨0, []⟩) := by show szN _ + 0 = _; omega
      rw [e] at this
      exact this
  exact key o [] rfl
end Go.Proofs.Ytdpmhpmnkollaaa
namespace Go.Proofs.Ytdpmhpmnkollaaa
open Go.RowKit Go.Shelf
set_option linter.unusedSimpArgs false
set_option linter.unusedVariables false
attribute [local go_sem] Oper.semAt_some

theorem wsum_le {L : List Nde} (hr : ∀ d ∈ L, d.r.length ≤ 1000000000) : ∀ (o : List Int), (∀ k ∈ o, (L.getD k.toNat ⟨0, []⟩).b ≤ 24) → wsum L o ≤ o.length * 1000524290
  | [], _ => by simp [wsum]
  | k :: o, h => by
    have ih := wsum_le hr o (fun j hj => h j (List.mem_cons_of_mem _ hj))
    have h1 : szN (L.getD k.toNat ⟨0, []⟩) ≤ 1000524290 := by
      refine sz_le (h k (List.mem_cons_self ..)) ?_
      rw [List.getD_eq_getElem?_getD]
      cases hk : L[k.toNat]? with
      | none => simp
      | some d => exact hr d (List.mem_of_getElem? hk)
    show szN _ + wsum L o ≤ (o.length + 1) * 1000524290
    omega
theorem lay_words {F : Int} {L : List Nde} (hl : L.length ≤ 1000000000) (hr : ∀ d ∈ L, d.r.length ≤ 1000000000) : (layR F L).1.2.2 ≤ 1000524290000000000 := by
  unfold layR
  split
  · rename_i h
    have ok := (chk_ok h).1
    split
    · rename_i P n hp
      have pl := pl_ok (ordL L) _ P 0 n (ord_ok ok).nd (fun k hk => by have := ord_in ok k hk; simp; omega) hp
      have h1 := wsum_le hr (ordL L) pl.bits
      have h2 := ord_len ok
      have h3 := pl.n
      dsimp only
      have : (ordL L).length * 1000524290 ≤ 1000000000 * 1000524290 := Nat.mul_le_mul_right _ (by omega)
      omega
    · simp
  · simp
def codE (F : Int) (L : List Nde) (most : Int) : Int := if (layR F L).2 = 0 then (if min most 4194304 < 4 * ((layR F L).1.2.2 : Int) then 18 else 0) else (layR F L).2
def codB (F : Int) (L : List Nde) (most : Int) : List Nat := if codE F L most = 0 then lyB L (layR F L).1.2.1 0 (layR F L).1.1 else []
theorem lay_zero {F : Int} {L : List Nde} (h : (layR F L).2 = 0) : NdsOk L ∧ (chkM F L).2 = 0 ∧ plG L (ordL L) (List.replicate L.length 0) 0 = some ((layR F L).1.2.1, (layR F L).1.2.2) ∧ (layR F L).1.1 = ordL L := by
  unfold layR at h ⊢
  by_cases hc : (chkM F L).2 = 0
  · rw [if_pos hc] at h ⊢
    cases hp : plG L (ordL L) (List.replicate L.length 0) 0 with
    | none => rw [hp] at h; cases h
    | some q =>
      obtain ⟨P, n⟩ := q
      exact ⟨(chk_ok hc).1, hc, rfl, rfl⟩
  · rw [if_neg hc] at h
    exact absurd h hc
set_option maxRecDepth 20000 in
set_option maxHeartbeats 8000000 in
theorem code_any (F : Int) (v : Value) (L : List Nde) (most : Int) (w : World) (hv : RwD w v L) (hl : L.length ≤ 1000000000) (hr : ∀ d ∈ L, d.r.length ≤ 1000000000) :
    Calls Try.prog 8 #[.int .i64 F, v, .int .i64 most] w fun e w' => ∃ v', e = .returned (.tuple #[v', .int .i64 (codE F L most)]) ∧ w'.ownsRow w.heap.size 5 1 v' (codB F L most).length ((codB F L most).map cB) ∧ Below w.heap.size w w' := by
  have KL := layoutOf_any F v L w hv hl hr
  have HLw := hid13 (lay_words (F := F) hl hr)
  have HLz := hid13 (fun h => lay_zero (F := F) (L := L) h)
  have HV := hid13 hv
  have HS : Hid (L.length ≤ 1000000000 ∧ ∀ d ∈ L, d.r.length ≤ 1000000000) := ⟨hl, hr⟩
  have HE : Hid (∀ R, layR F L = R → codE F L most = (if R.2 = 0 then (if min most 4194304 < 4 * (R.1.2.2 : Int) then 18 else 0) else R.2) ∧ codB F L most = if codE F L most = 0 then lyB L R.1.2.1 0 R.1.1 else []) := hid13 (fun R h => by subst h; exact ⟨rfl, rfl⟩)
  have mn := min_16 most 4194304
  obtain ⟨mm, hmm⟩ : ∃ mm, mm = min most 4194304 := ⟨_, rfl⟩
  rw [← hmm] at mn HE
  have HM : Hid (mm ≤ 4194304) := by show _ ≤ _; omega
  generalize codE F L most = cE at *
  generalize codB F L most = cB' at *
  generalize layR F L = R at *
  obtain ⟨⟨o, P, n⟩, e⟩ := R
  dsimp only at KL HLw HLz
  clear hv hr hl hmm
  go_enter Try.func8, Try.ntmps8
  go_wp2_with fail
  refine KL.mono ?_
  rintro e2 w2 ⟨vo, vp, rfl, ho, hp, hb⟩
  have HO := hid13 ho
  have HP := hid13 hp
  have HB := hid13 hb
  obtain ⟨oa, oc, hvo⟩ := own_form ho
  obtain ⟨pa, pc, hvp⟩ := own_form hp
  subst hvo hvp
  have q3 := bl1 w2 (.cells #[.slice oa o.length oc, .slice pa P.length pc, .int .i64 (n : Int)] 58)
  have HO3 := hid13 (own_b13 q3 HO.out)
  have HP3 := hid13 (own_b13 q3 HP.out)
  have HB3 := hid13 (keepb q3 HB.out)
  clear KL ho hp hb q3 HO HP
  by_cases h0 : e = 0
  · obtain ⟨ok, hck, hpl, hoo⟩ := HLz.out h0
    have hE := HE.out _ rfl
    dsimp only at hE
    rw [if_pos h0] at hE
    obtain ⟨b4, hb4⟩ : ∃ b4, b4 = (n : Int) * 4 := ⟨_, rfl⟩
    have m4' : wrap64 ((n : Int) * 4) = b4 := by unfold wrap64; have := HLw.out; omega
    have HH4 := hid13 hb4
    subst h0
    by_cases hc : mm < b4
    · have HE2 : Hid (cE = 18 ∧ cB' = []) := by
        have h1 : cE = 18 := by rw [hE.1, if_pos (by omega)]
        exact ⟨h1, by rw [hE.2, h1]; rfl⟩
      clear hE HE HLz hb4 ok hck hpl hoo
      go_wp2
      refine bodyPost_ret (v := .tuple #[.slice none 0 0, .int .i64 18]) (by simp [results, Try.results8, go_sem]) rfl ⟨_, by rw [HE2.out.1], ?_, HB3.out⟩
      rw [HE2.out.2]; exact World.ownsRow_nil _ _ _ _
    · have hn : n ≤ 1048576 := by have := HM.out; omega
      obtain ⟨hlo, hws⟩ := lay_ok ok hpl hn
      have HE2 : Hid (cE = 0 ∧ cB' = lyB L P 0 o) := by
        have h1 : cE = 0 := by rw [hE.1, if_neg (by omega)]
        exact ⟨h1, by rw [hE.2, if_pos h1]⟩
      rw [← hoo] at hlo hws
      have KY := lay_any w v (.slice oa o.length oc) (.slice pa P.length pc) L o P n _ HB3.out HV.out HO3.out HP3.out HS.out.1 HS.out.2 (by rw [hoo]; have := ord_len ok; have := HS.out.1; omega) hlo hws hn
      clear hE HE HLz hb4 ok hck hpl hoo hlo hws hn
      go_wp2_with fail
      refine KY.mono ?_
      rintro e3 w3 ⟨v', rfl, hO9, hB9⟩
      have HO9 := hid13 hO9
      have HB9 := hid13 hB9
      clear KY hO9 hB9
      go_wp2
      refine bodyPost_ret (v := .tuple #[v', .int .i64 0]) (by simp [results, Try.results8, go_sem]) rfl ⟨_, by rw [HE2.out.1], ?_, HB9.out⟩
      rw [HE2.out.2]; exact HO9.out
  · have hn : (e != 0) = true := by simpa using h0
    have HE2 : Hid (cE = e ∧ cB' = []) := by
      have hE := HE.out _ rfl
      dsimp only at hE
      rw [if_neg h0] at hE
      exact ⟨hE.1, by rw [hE.2, if_neg (by rw [hE.1]; exact h0)]⟩
    clear HE HLz
    go_wp2
    refine bodyPost_ret (v := .tuple #[.slice none 0 0, .int .i64 e]) (by simp [results, Try.results8, go_sem]) rfl ⟨_, by rw [HE2.out.1], ?_, HB3.out⟩
    rw [HE2.out.2]; exact World.ownsRow_nil _ _ _ _
end Go.Proofs.Ytdpmhpmnkollaaa
