/-
  Part 21 of the proof: 3 texts, one behind the other.
-/
import Derived.Test.YtdpmhpmnkollaaaPart19
import Derived.Test.YtdpmhpmnkollaaaPart20
import Derived.Test.YtdpmhpmnkollaaaPart14
namespace Go.Proofs.Ytdpmhpmnkollaaa
open Go.RowKit Go.Shelf
set_option linter.unusedSimpArgs false
set_option linter.unusedVariables false
attribute [local go_sem] Oper.semAt_some

theorem isFam16 (F : Int) (w : World) :
    Calls Try.prog 19 #[.int .i64 F] w fun e w' => e = .returned (.bool (fam F)) ∧ w' = w := by
  unfold fam
  by_cases h1 : F = 32
  · subst h1
    go_enter Try.func19, Try.ntmps19
    go_wp2
    go_ret
    exact ⟨rfl, rfl⟩
  · have b1 : (F == 32) = false := by simp [h1]
    have b2 : (F == 128) = decide (F = 128) := by rw [Bool.eq_iff_iff]; simp
    rw [show decide (F = 32) = false by simp [h1], Bool.false_or]
    go_enter Try.func19, Try.ntmps19
    go_wp2
    go_ret
    exact ⟨rfl, rfl⟩
structure MkV (w : World) (m : List Bool) (W : World) : Prop where
  g : W.heap[w.heap.size]? = some (.cells (m.map cBo).toArray 4)
  b : Below w.heap.size w W
section
variable {w W W' : World} {m : List Bool}
theorem MkV.below (h : MkV w m W) (hb : Below W.heap.size W W') : MkV w m W' := ⟨(hb.block _ (lt_16 h.g)).trans h.g, keepb hb h.b⟩
theorem MkV.put (h : MkV w m W) (k : Nat) : MkV w (mkK m (k : Int)) (W.setCell ⟨w.heap.size, k, none⟩ (.bool true)) := by
  refine ⟨?_, h.b.setCell (p := ⟨w.heap.size, k, none⟩) (Nat.le_refl _) _⟩
  rw [set_16 h.g, map_set16]
  unfold mkK
  rw [Int.toNat_natCast]
theorem MkV.cell (h : MkV w m W) {k : Nat} (hk : k < m.length) : W.cell? ⟨w.heap.size, k, none⟩ = some (.bool (m.getD k false)) := by
  refine at_16 h.g k _ ?_
  rw [List.getElem?_toArray, List.getElem?_map, List.getElem?_eq_getElem hk, List.getD_eq_getElem?_getD, List.getElem?_eq_getElem hk]
  rfl
end
set_option maxRecDepth 100000 in
set_option maxHeartbeats 16000000 in
theorem rcheck_any (F : Int) (v : Value) (L : List Nde) (w : World) (hv : RwD w v L) (hl : L.length ≤ 1000000) (hr : ∀ d ∈ L, d.r.length ≤ 1000000) :
    Calls Try.prog 7 #[.int .i64 F, v] w fun e w' => e = .returned (.tuple #[.int .i64 (chkM F L).1, .int .i64 (chkM F L).2]) ∧ Below w.heap.size w w' := by
  obtain ⟨i0, hi, hz0, hz1, hz2⟩ := info13 Try.infoO16
  have KF := fun w => isFam16 F w
  have HCm : Hid (chkM F L = if fam F = true then (if nodesE L = 0 then (if usedB L = true then deepR F L else (0, 31)) else (0, nodesE L)) else (0, 11)) := rfl
  have HFw := hid13 (fam_ways F)
  obtain ⟨R, hR⟩ : ∃ R, R = chkM F L := ⟨_, rfl⟩
  rw [← hR] at HCm ⊢
  clear hR
  obtain ⟨ao, c, hvf, hc, hrow⟩ := id hv
  have HV := hid13 hv
  subst hvf
  cases hf : fam F with
  | false =>
    rw [hf] at KF HCm
    have HE : Hid (R = (0, 11)) := HCm
    clear hf hrow HV hv HFw HCm
    go_enter Try.func7, Try.ntmps7
    go_wp2_with fail
    refine (KF _).mono ?_
    rintro e w1 ⟨rfl, hw⟩
    subst hw
    clear KF
    go_wp2
    exact bodyPost_ret (v := .tuple #[.int .i64 0, .int .i64 11]) (by simp [results, Try.results7, go_sem]) rfl ⟨by rw [HE.out], Below.refl _ _⟩
  | true =>
  rw [hf, if_pos rfl] at HCm
  rw [hf] at KF
  have HFF : Hid (0 ≤ F ∧ F ≤ 128) := hid13 (by rcases HFw.out hf with rfl | rfl <;> decide)
  clear HFw hf
  by_cases h0 : L = []
  · have HE : Hid (R = (0, 2)) := by
      show _ = _
      rw [HCm.out]
      unfold nodesE
      rw [if_pos h0]; rfl
    subst h0
    clear HV hv HCm hrow
    go_enter Try.func7, Try.ntmps7
    go_wp2_with fail
    refine (KF _).mono ?_
    rintro e w1 ⟨rfl, hw⟩
    subst hw
    clear KF
    go_wp2
    exact bodyPost_ret (v := .tuple #[.int .i64 0, .int .i64 2]) (by simp [results, Try.results7, go_sem]) rfl ⟨by rw [HE.out], Below.refl _ _⟩
  have hp := List.length_pos_iff.mpr h0
  obtain ⟨nb, nof, rfl, hcell⟩ := hrow.resolve_left h0
  have HC := hid13 hcell
  obtain ⟨E, hE⟩ : ∃ E, E = ndsE L.length 0 L := ⟨_, rfl⟩
  have HNE : Hid (nodesE L = E) := by show _ = _; unfold nodesE; rw [if_neg h0, hE]
  have HE0 : Hid (ndsE L.length 0 (L.drop 0) = E) := hE.symm
  have HL : Hid (L.length ≤ 1000000 ∧ (∀ d ∈ L, d.r.length ≤ 1000000) ∧ 0 < L.length) := ⟨hl, hr, hp⟩
  have e1 : ((L.length : Int) == 0) = false := by rw [beq_eq_false_iff_ne]; omega
  clear hE h0 hcell hrow hr hp hv
  go_enter Try.func7, Try.ntmps7
  go_wp2_with fail
  refine (KF _).mono ?_
  rintro e w1 ⟨rfl, hw⟩
  subst hw
  clear KF
  go_wp2_with (at_make; apply stopHere9)
  refine (show wpList _ _ _ _ _ _ from ?_)
  refine wpList_make16 _ rfl _ _ 55 rfl 4 i0 (.bool false) Try.underlying55 hi hz0 .i64 .i64 _ _ L.length L.length rfl rfl rfl rfl (Nat.le_refl _) (by rw [hz2]; omega) (by unfold maxLen; omega) ?_
  have eO : madeCells (Value.bool false).cells (L.length * i0.size) = ((List.replicate L.length false).map cBo).toArray := by rw [hz1, Nat.mul_one, List.map_replicate]; exact made_one16 _ _
  rw [eO]
  obtain ⟨O1, hO1⟩ : ∃ O : Obj, O = .cells ((List.replicate L.length false).map cBo).toArray 4 := ⟨_, rfl⟩
  rw [← hO1]
  have HM0 : Hid (MkV w1 (mkL L 0) (w1.alloc O1)) := hid13 ⟨by rw [hO1]; exact new_16 _ _, bl1 _ _⟩
  clear eO hO1 hi hz0 hz1 hz2 e1
  go_wp2_with fail
  revert HM0
  generalize w1.alloc O1 = W0
  intro HM0
  go_loopg [7] L.length (fun g iv wr => ∃ i : Nat, i + g = L.length ∧ iv = .int .i64 (i : Int) ∧ Hid (ndsE L.length i (L.drop i) = E) ∧ Hid (MkV w1 (mkL L i) wr))
  case atStart => exact ⟨0, by omega, rfl, HE0, HM0⟩
  case round =>
    clear HM0 HE0
    obtain ⟨i, hk, rfl, HE, HM⟩ := hrel
    by_cases hlt : (i : Int) < (L.length : Int)
    · have hks : i < L.length := by omega
      have HD := hid13 (nds_drop (L.length : Int) L i hks)
      have hdd := List.getElem?_eq_getElem hks
      have hdr := HL.out.2.1 _ (List.getElem_mem hks)
      generalize L[i] = d at *
      have hd : L[i]? = some d := hdd
      obtain ⟨db, dr⟩ := d
      obtain ⟨vr, x0, x1, hR⟩ := HC.out i _ hd
      have HMs := hid13 (mkL_step L i _ hd)
      have HMl := hid13 (mkL_size L i)
      dsimp only at x0 hR hdr HMs
      have hRw := hR.below HM.out.b
      obtain ⟨vo, vc, hvr, -, hrr⟩ := id hR
      subst hvr
      have HR := hid13 hrr
      have x0 := keepc HM.out.b x0
      have x1 := keepc HM.out.b x1
      have q1 := bl1 wr (.cells #[.int .i64 db, .slice vo dr.length vc] 53)
      have HN1 := hid13 (new_16 wr (.cells #[.int .i64 db, .slice vo dr.length vc] 53))
      have HM1 := hid13 (HM.out.below q1)
      have HRw := hid13 (hRw.below q1)
      obtain ⟨NB, hNB⟩ : ∃ NB, NB = wr.heap.size := ⟨_, rfl⟩
      have HNb : Hid (NB ≠ w1.heap.size ∧ NB = wr.heap.size) := ⟨by have := lt_16 HM.out.g; omega, hNB⟩
      obtain ⟨y0, y1⟩ := atd_new wr db (.slice vo dr.length vc) 53
      have HNd : Hid (∀ ee, ndeE ⟨db, dr⟩ i L.length = ee → ee ≠ 0 → R = (0, ee)) := fun ee h1 h2 => by
        have e9 : E = ee := by rw [← HE.out, HD.out, h1, if_neg h2]
        rw [HCm.out, HNE.out, e9, if_neg h2]
      have HNz : Hid (ndeE ⟨db, dr⟩ i L.length = 0 → ndsE L.length (i + 1) (L.drop (i + 1)) = E) := fun h1 => by
        rw [← HE.out, HD.out, if_pos h1]
      have HNn : Hid (ndeE ⟨db, dr⟩ i L.length = if argB db L.length = true then (if ioB ⟨db, dr⟩ = true then runsE i L.length dr else 19) else 1) := rfl
      generalize ndeE ⟨db, dr⟩ i L.length = nE at *
      have mi : IntKind.i64.wrap ((i : Int) + 1) = (i : Int) + 1 := by rw [IntKind.wrap_i64]; omega
      obtain ⟨G, hG⟩ : ∃ G, G = gk := ⟨_, rfl⟩
      have HJ : Hid (i + G = L.length ∧ i < L.length ∧ G = gk) := ⟨by omega, by omega, hG⟩
      clear hNB q1 hR hRw hrr hd hdd HD HE HM hG hk
      by_cases hlo : db < 0
      · have HEE := hid13 (HNd.out 1 (by rw [HNn.out]; rw [if_neg (by unfold argB bitsB; simp; omega)]) (by decide))
        have HB := hid13 HM1.out.b
        clear HNd HNz HNn HRw HM1
        go_wp2
        exact bodyPost_ret (v := .tuple #[.int .i64 0, .int .i64 1]) (by simp [results, Try.results7, go_sem]) rfl ⟨by rw [HEE.out], HB.out⟩
      by_cases hhi : 128 < db
      · have HEE := hid13 (HNd.out 1 (by rw [HNn.out]; rw [if_neg (by unfold argB bitsB; simp; omega)]) (by decide))
        have HB := hid13 HM1.out.b
        clear HNd HNz HNn HRw HM1
        go_wp2
        exact bodyPost_ret (v := .tuple #[.int .i64 0, .int .i64 1]) (by simp [results, Try.results7, go_sem]) rfl ⟨by rw [HEE.out], HB.out⟩
      have KR := rruns_any db _ dr _ HRw.out hdr (by omega) (by omega)
      cases e3 : (db == 0) with
      | false =>
        have hne : db ≠ 0 := by simpa using e3
        replace HNn : Hid (nE = if ioB ⟨db, dr⟩ = true then runsE i L.length dr else 19) := by show _ = _; rw [HNn.out]; rw [if_pos (by unfold argB bitsB; simp [hne]; omega)]
        clear hne
        generalize hio : ioB ⟨db, dr⟩ = io at *
        clear hio
        go_wp2_with fail
        refine KR.mono ?_
        rintro e w3 ⟨rfl, hb3⟩
        have HM3 := hid13 (HM1.out.below hb3)
        have HN3 := hid13 ((hb3.block _ (lt_16 HN1.out)).trans HN1.out)
        clear KR hb3 HM1 HN1 HRw y0 y1 x0 x1
        cases io with
        | false =>
          have HEE := hid13 (HNd.out 19 HNn.out (by decide))
          have HB := hid13 HM3.out.b
          clear HNd HNz HNn HM3 HN3
          go_wp2
          exact bodyPost_ret (v := .tuple #[.int .i64 0, .int .i64 19]) (by simp [results, Try.results7, go_sem]) rfl ⟨by rw [HEE.out], HB.out⟩
        | true =>
          replace HNn : Hid (nE = runsE i L.length dr) := HNn
          rw [← HNb.out.2] at HN3 ⊢
          replace HNb : Hid (NB ≠ w1.heap.size) := HNb.out.1
          go_wp2_with fail
          go_loopg [9] dr.length (fun g kv wr2 => ∃ k : Nat, k + g = dr.length ∧ kv = .int .i64 (k : Int) ∧ Hid (runsE i L.length (dr.drop k) = nE) ∧ Hid (MkV w1 ((kidL (dr.take k)).foldl mkK (mkL L i)) wr2) ∧ Hid (wr2.heap[NB]? = some (.cells #[.int .i64 db, .slice vo dr.length vc] 53)))
          case atStart => exact ⟨0, by omega, rfl, HNn.out.symm, HM3, HN3⟩
          case round =>
            clear HM3 HN3
            obtain ⟨k, hk, rfl, HG, HM4, HN4⟩ := hrel
            have a1 := at_16 HN4.out 1 _ rfl
            by_cases hlt3 : (k : Int) < (dr.length : Int)
            · have hjs : k < dr.length := by omega
              obtain ⟨rb, rof, rfl, hrc⟩ := HR.out.resolve_left (by rintro rfl; simp at hjs)
              have HRd := hid13 (runs_drop (i : Int) (L.length : Int) dr k hjs)
              have hrr := List.getElem?_eq_getElem hjs
              generalize dr[k] = r at *
              have hr : dr[k]? = some r := hrr
              obtain ⟨r0, r1, r2, r3⟩ := hrc k r hr
              have HTk := hid13 (kid_take dr k r hr)
              have r0 := keepc HM4.out.b r0
              have r1 := keepc HM4.out.b r1
              have r2 := keepc HM4.out.b r2
              have r3 := keepc HM4.out.b r3
              have HRe : Hid (runE r i L.length = if r.k then (if r.n ≤ i ∨ (L.length : Int) ≤ r.n then 26 else 0) else (if r.n < 0 ∨ 65535 < r.n then 15 else 0)) := rfl
              have HRb : Hid (∀ ee, runE r i L.length = ee → ee ≠ 0 → R = (0, ee)) := fun ee h1 h2 => by
                refine HNd.out ee ?_ h2
                rw [← HG.out, HRd.out, h1, if_neg h2]
              have HRz : Hid (runE r i L.length = 0 → runsE i L.length (dr.drop (k + 1)) = nE) := fun h1 => by rw [← HG.out, HRd.out, if_pos h1]
              generalize runE r i L.length = rE at *
              obtain ⟨rf, rk, rn⟩ := r
              dsimp only at r0 r1 r2 r3 HTk HRe
              have q7 := bl1 wr (.cells #[.int .u64 (hI rf), .int .u64 (lI rf), .bool rk, .int .i64 rn] 50)
              have HM7 := hid13 (HM4.out.below q7)
              have HN7 := hid13 ((q7.block _ (lt_16 HN4.out)).trans HN4.out)
              have hRN : wr.heap.size ≠ w1.heap.size := by have := lt_16 HM4.out.g; omega
              have mk : IntKind.i64.wrap ((k : Int) + 1) = (k : Int) + 1 := by rw [IntKind.wrap_i64]; omega
              have HK : Hid (k + gk = dr.length ∧ k < dr.length) := ⟨hk, hjs⟩
              obtain ⟨z0, z1, z2, z3⟩ := rnat_new wr ⟨rf, rk, rn⟩ 50
              dsimp only at z0 z1 z2 z3
              have HBm := hid13 HM7.out.b
              clear hk hrc hr hrr q7 HG HRd HM4 HN4
              cases rk with
              | false =>
                by_cases hn0 : rn < 0
                · have HEE := hid13 (HRb.out 15 (by rw [HRe.out]; simp [hn0]) (by decide))
                  clear HRb HRz HRe HM7 HN7 HTk
                  go_wp2
                  exact bodyPost_ret (v := .tuple #[.int .i64 0, .int .i64 15]) (by simp [results, Try.results7, go_sem]) rfl ⟨by rw [HEE.out], HBm.out⟩
                by_cases hn1 : 65535 < rn
                · have HEE := hid13 (HRb.out 15 (by rw [HRe.out]; simp [hn1]) (by decide))
                  clear HRb HRz HRe HM7 HN7 HTk
                  go_wp2
                  exact bodyPost_ret (v := .tuple #[.int .i64 0, .int .i64 15]) (by simp [results, Try.results7, go_sem]) rfl ⟨by rw [HEE.out], HBm.out⟩
                have HEE := hid13 (HRz.out (by rw [HRe.out]; simp; omega))
                have HM8 : Hid (MkV w1 ((kidL (dr.take (k + 1))).foldl mkK (mkL L i)) (wr.alloc (.cells #[.int .u64 (hI rf), .int .u64 (lI rf), .bool false, .int .i64 rn] 50))) := by
                  show MkV _ _ _
                  rw [HTk.out]
                  exact HM7.out
                clear HRb HRz HRe HM7 HTk
                go_wp2
                go_roundg (gk - 1)
                case measure => have := HK.out; omega
                case rel => exact ⟨k + 1, by have := HK.out; omega, rfl, HEE, HM8, HN7⟩
              | true =>
                by_cases hn0 : rn ≤ (i : Int)
                · have HEE := hid13 (HRb.out 26 (by rw [HRe.out]; simp [hn0]) (by decide))
                  clear HRb HRz HRe HM7 HN7 HTk
                  go_wp2
                  exact bodyPost_ret (v := .tuple #[.int .i64 0, .int .i64 26]) (by simp [results, Try.results7, go_sem]) rfl ⟨by rw [HEE.out], HBm.out⟩
                by_cases hn1 : (L.length : Int) ≤ rn
                · have HEE := hid13 (HRb.out 26 (by rw [HRe.out]; simp [hn1]) (by decide))
                  clear HRb HRz HRe HM7 HN7 HTk
                  go_wp2
                  exact bodyPost_ret (v := .tuple #[.int .i64 0, .int .i64 26]) (by simp [results, Try.results7, go_sem]) rfl ⟨by rw [HEE.out], HBm.out⟩
                have HEE := hid13 (HRz.out (by rw [HRe.out]; simp; omega))
                obtain ⟨q, rfl⟩ : ∃ q : Nat, rn = (q : Int) := ⟨rn.toNat, by omega⟩
                have hqi : (q : Int) < (L.length : Int) := by omega
                have hql : q < L.length := by omega
                have g0 := HM7.out.cell (k := q) (by rw [mkF_len, HMl.out]; exact hql)
                have g0f := fr_16 (j := q) HM7.out.g
                have HM8 : Hid (MkV w1 ((kidL (dr.take (k + 1))).foldl mkK (mkL L i)) ((wr.alloc (.cells #[.int .u64 (hI rf), .int .u64 (lI rf), .bool true, .int .i64 (q : Int)] 50)).setCell ⟨w1.heap.size, q, none⟩ (.bool true))) := by
                  show MkV _ _ _
                  have e9 : kidL (dr.take (k + 1)) = kidL (dr.take k) ++ [(q : Int)] := HTk.out
                  rw [e9, List.foldl_append]
                  exact HM7.out.put q
                have HN8 : Hid (((wr.alloc (.cells #[.int .u64 (hI rf), .int .u64 (lI rf), .bool true, .int .i64 (q : Int)] 50)).setCell ⟨w1.heap.size, q, none⟩ (.bool true)).heap[NB]? = some (.cells #[.int .i64 db, .slice (some ⟨rb, rof, none⟩) dr.length vc] 53)) := (far_16 HNb.out).trans HN7.out
                generalize ((kidL (dr.take k)).foldl mkK (mkL L i)).getD q false = was at *
                clear HRb HRz HRe HM7 HTk hql HN7
                go_wp2
                go_roundg (gk - 1)
                case measure => have := HK.out; omega
                case rel => exact ⟨k + 1, by have := HK.out; omega, rfl, HEE, HM8, HN8⟩
            · have HEE : Hid (nE = 0) := by show _ = _; rw [← HG.out, List.drop_eq_nil_of_le (by omega)]; rfl
              have HEz := hid13 (HNz.out HEE.out)
              have HMe : Hid (MkV w1 (mkL L (i + 1)) wr) := by
                have := HM4.out
                rw [List.take_of_length_le (by omega), ← HMs.out] at this
                exact this
              clear hk HG HM4 HN4
              go_wp2
              go_roundg (G - 1)
              case measure => have := HJ.out; omega
              case rel => exact ⟨i + 1, by have := HJ.out; omega, rfl, HEz, HMe⟩
      | true =>
        have hz : db = 0 := by simpa using e3
        by_cases h1N : (1 : Int) < (L.length : Int)
        · have HEE := hid13 (HNd.out 1 (by rw [HNn.out]; rw [if_neg (by unfold argB bitsB; simp [hz]; omega)]) (by decide))
          have HB := hid13 HM1.out.b
          clear HNd HNz HNn HRw HM1 KR hz
          go_wp2
          exact bodyPost_ret (v := .tuple #[.int .i64 0, .int .i64 1]) (by simp [results, Try.results7, go_sem]) rfl ⟨by rw [HEE.out], HB.out⟩
        replace HNn : Hid (nE = if ioB ⟨db, dr⟩ = true then runsE i L.length dr else 19) := by show _ = _; rw [HNn.out]; rw [if_pos (by unfold argB bitsB; simp [hz]; omega)]
        clear hz
        generalize hio : ioB ⟨db, dr⟩ = io at *
        clear hio
        go_wp2_with fail
        refine KR.mono ?_
        rintro e w3 ⟨rfl, hb3⟩
        have HM3 := hid13 (HM1.out.below hb3)
        have HN3 := hid13 ((hb3.block _ (lt_16 HN1.out)).trans HN1.out)
        clear KR hb3 HM1 HN1 HRw y0 y1 x0 x1
        cases io with
        | false =>
          have HEE := hid13 (HNd.out 19 HNn.out (by decide))
          have HB := hid13 HM3.out.b
          clear HNd HNz HNn HM3 HN3
          go_wp2
          exact bodyPost_ret (v := .tuple #[.int .i64 0, .int .i64 19]) (by simp [results, Try.results7, go_sem]) rfl ⟨by rw [HEE.out], HB.out⟩
        | true =>
          replace HNn : Hid (nE = runsE i L.length dr) := HNn
          rw [← HNb.out.2] at HN3 ⊢
          replace HNb : Hid (NB ≠ w1.heap.size) := HNb.out.1
          go_wp2_with fail
          go_loopg [9] dr.length (fun g kv wr2 => ∃ k : Nat, k + g = dr.length ∧ kv = .int .i64 (k : Int) ∧ Hid (runsE i L.length (dr.drop k) = nE) ∧ Hid (MkV w1 ((kidL (dr.take k)).foldl mkK (mkL L i)) wr2) ∧ Hid (wr2.heap[NB]? = some (.cells #[.int .i64 db, .slice vo dr.length vc] 53)))
          case atStart => exact ⟨0, by omega, rfl, HNn.out.symm, HM3, HN3⟩
          case round =>
            clear HM3 HN3
            obtain ⟨k, hk, rfl, HG, HM4, HN4⟩ := hrel
            have a1 := at_16 HN4.out 1 _ rfl
            by_cases hlt3 : (k : Int) < (dr.length : Int)
            · have hjs : k < dr.length := by omega
              obtain ⟨rb, rof, rfl, hrc⟩ := HR.out.resolve_left (by rintro rfl; simp at hjs)
              have HRd := hid13 (runs_drop (i : Int) (L.length : Int) dr k hjs)
              have hrr := List.getElem?_eq_getElem hjs
              generalize dr[k] = r at *
              have hr : dr[k]? = some r := hrr
              obtain ⟨r0, r1, r2, r3⟩ := hrc k r hr
              have HTk := hid13 (kid_take dr k r hr)
              have r0 := keepc HM4.out.b r0
              have r1 := keepc HM4.out.b r1
              have r2 := keepc HM4.out.b r2
              have r3 := keepc HM4.out.b r3
              have HRe : Hid (runE r i L.length = if r.k then (if r.n ≤ i ∨ (L.length : Int) ≤ r.n then 26 else 0) else (if r.n < 0 ∨ 65535 < r.n then 15 else 0)) := rfl
              have HRb : Hid (∀ ee, runE r i L.length = ee → ee ≠ 0 → R = (0, ee)) := fun ee h1 h2 => by
                refine HNd.out ee ?_ h2
                rw [← HG.out, HRd.out, h1, if_neg h2]
              have HRz : Hid (runE r i L.length = 0 → runsE i L.length (dr.drop (k + 1)) = nE) := fun h1 => by rw [← HG.out, HRd.out, if_pos h1]
              generalize runE r i L.length = rE at *
              obtain ⟨rf, rk, rn⟩ := r
              dsimp only at r0 r1 r2 r3 HTk HRe
              have q7 := bl1 wr (.cells #[.int .u64 (hI rf), .int .u64 (lI rf), .bool rk, .int .i64 rn] 50)
              have HM7 := hid13 (HM4.out.below q7)
              have HN7 := hid13 ((q7.block _ (lt_16 HN4.out)).trans HN4.out)
              have hRN : wr.heap.size ≠ w1.heap.size := by have := lt_16 HM4.out.g; omega
              have mk : IntKind.i64.wrap ((k : Int) + 1) = (k : Int) + 1 := by rw [IntKind.wrap_i64]; omega
              have HK : Hid (k + gk = dr.length ∧ k < dr.length) := ⟨hk, hjs⟩
              obtain ⟨z0, z1, z2, z3⟩ := rnat_new wr ⟨rf, rk, rn⟩ 50
              dsimp only at z0 z1 z2 z3
              have HBm := hid13 HM7.out.b
              clear hk hrc hr hrr q7 HG HRd HM4 HN4
              cases rk with
              | false =>
                by_cases hn0 : rn < 0
                · have HEE := hid13 (HRb.out 15 (by rw [HRe.out]; simp [hn0]) (by decide))
                  clear HRb HRz HRe HM7 HN7 HTk
                  go_wp2
                  exact bodyPost_ret (v := .tuple #[.int .i64 0, .int .i64 15]) (by simp [results, Try.results7, go_sem]) rfl ⟨by rw [HEE.out], HBm.out⟩
                by_cases hn1 : 65535 < rn
                · have HEE := hid13 (HRb.out 15 (by rw [HRe.out]; simp [hn1]) (by decide))
                  clear HRb HRz HRe HM7 HN7 HTk
                  go_wp2
                  exact bodyPost_ret (v := .tuple #[.int .i64 0, .int .i64 15]) (by simp [results, Try.results7, go_sem]) rfl ⟨by rw [HEE.out], HBm.out⟩
                have HEE := hid13 (HRz.out (by rw [HRe.out]; simp; omega))
                have HM8 : Hid (MkV w1 ((kidL (dr.take (k + 1))).foldl mkK (mkL L i)) (wr.alloc (.cells #[.int .u64 (hI rf), .int .u64 (lI rf), .bool false, .int .i64 rn] 50))) := by
                  show MkV _ _ _
                  rw [HTk.out]
                  exact HM7.out
                clear HRb HRz HRe HM7 HTk
                go_wp2
                go_roundg (gk - 1)
                case measure => have := HK.out; omega
                case rel => exact ⟨k + 1, by have := HK.out; omega, rfl, HEE, HM8, HN7⟩
              | true =>
                by_cases hn0 : rn ≤ (i : Int)
                · have HEE := hid13 (HRb.out 26 (by rw [HRe.out]; simp [hn0]) (by decide))
                  clear HRb HRz HRe HM7 HN7 HTk
                  go_wp2
                  exact bodyPost_ret (v := .tuple #[.int .i64 0, .int .i64 26]) (by simp [results, Try.results7, go_sem]) rfl ⟨by rw [HEE.out], HBm.out⟩
                by_cases hn1 : (L.length : Int) ≤ rn
                · have HEE := hid13 (HRb.out 26 (by rw [HRe.out]; simp [hn1]) (by decide))
                  clear HRb HRz HRe HM7 HN7 HTk
                  go_wp2
                  exact bodyPost_ret (v := .tuple #[.int .i64 0, .int .i64 26]) (by simp [results, Try.results7, go_sem]) rfl ⟨by rw [HEE.out], HBm.out⟩
                exfalso; omega
            · have HEE : Hid (nE = 0) := by show _ = _; rw [← HG.out, List.drop_eq_nil_of_le (by omega)]; rfl
              have HEz := hid13 (HNz.out HEE.out)
              have HMe : Hid (MkV w1 (mkL L (i + 1)) wr) := by
                have := HM4.out
                rw [List.take_of_length_le (by omega), ← HMs.out] at this
                exact this
              clear hk HG HM4 HN4
              go_wp2
              go_roundg (G - 1)
              case measure => have := HJ.out; omega
              case rel => exact ⟨i + 1, by have := HJ.out; omega, rfl, HEz, HMe⟩
    · have hie : i = L.length := by omega
      have hE0 : E = 0 := by rw [← HE.out, List.drop_eq_nil_of_le (by omega)]; rfl
      subst hie
      have hn0 : nodesE L = 0 := HNE.out.trans hE0
      have HOk := hid13 (nodes_ok hn0)
      rw [if_pos hn0] at HCm
      have HUs := hid13 (used_iff L HL.out.2.2 HOk.out.kids)
      have KW := fun W (h : RwD W (.slice (some ⟨nb, nof, none⟩) L.length c) L) => rways_any F _ L W HFF.out.1 HFF.out.2 h HOk.out HL.out.1 HL.out.2.1
      have hms := mkL_size L L.length
      have HMs := hid13 hms
      have hlt2 : ¬ (L.length : Int) < (L.length : Int) := by omega
      generalize mkL L L.length = M at *
      generalize usedB L = ub at *
      generalize deepR F L = dd at *
      have HKW := hid13 KW
      clear HE hk hE0 hn0 HNE KW hms
      go_wp2_with fail
      go_loopg [11] (L.length - 1) (fun g iv wr2 => ∃ j : Nat, 1 ≤ j ∧ j + g = L.length ∧ iv = .int .i64 (j : Int) ∧ Hid (∀ z, 1 ≤ z → z < j → M.getD z false = true) ∧ wr2 = wr)
      case atStart => exact ⟨1, by omega, by have := HL.out.2.2; omega, rfl, hid13 (fun z h1 h2 => by omega), rfl⟩
      case round =>
        clear hlt hlt2
        obtain ⟨j, hj1, hj, rfl, HA, hw2⟩ := hrel
        subst hw2
        by_cases hlt : (j : Int) < (L.length : Int)
        · have hjs : j < L.length := by omega
          have y := HM.out.cell (k := j) (by rw [HMs.out]; exact hjs)
          have HB := hid13 HM.out.b
          have HK : Hid (1 ≤ j ∧ j + gk = L.length ∧ j < L.length) := ⟨hj1, hj, hjs⟩
          have mj : IntKind.i64.wrap ((j : Int) + 1) = (j : Int) + 1 := by rw [IntKind.wrap_i64]; omega
          cases hmj : M.getD j false with
          | false =>
            have HEE : Hid (R = (0, 31)) := by
              show _ = _
              rw [HCm.out, if_neg (fun h => by have := HUs.out.mp h j hj1 hjs; rw [hmj] at this; cases this)]
            rw [hmj] at y
            clear HCm HUs HKW HA hmj hj hj1 hjs
            go_wp2
            exact bodyPost_ret (v := .tuple #[.int .i64 0, .int .i64 31]) (by simp [results, Try.results7, go_sem]) rfl ⟨by rw [HEE.out], HB.out⟩
          | true =>
            have HA2 : Hid (∀ z, 1 ≤ z → z < j + 1 → M.getD z false = true) := fun z h1 h2 => by
              by_cases hzj : z = j
              · rw [hzj]; exact hmj
              · exact HA.out z h1 (by omega)
            rw [hmj] at y
            clear hmj hj hj1 hjs HA
            go_wp2
            go_roundg (gk - 1)
            case measure => have := HK.out; omega
            case rel => exact ⟨j + 1, by have := HK.out; omega, by have := HK.out; omega, rfl, HA2, rfl⟩
        · have hje : j = L.length := by omega
          subst hje
          have hu : ub = true := HUs.out.mpr HA.out
          subst hu
          have HEE : Hid (R = dd) := by show _ = _; rw [HCm.out, if_pos rfl]
          have HB := hid13 HM.out.b
          have K2 := HKW.out _ (HV.out.below HB.out)
          have hlt2 : ¬ (L.length : Int) < (L.length : Int) := by omega
          obtain ⟨d1, d2⟩ := dd
          dsimp only at K2
          clear HCm HUs HKW HA hj hj1
          go_wp2_with fail
          refine K2.mono ?_
          rintro e w4 ⟨rfl, hb4⟩
          have HB4 := hid13 (keepb hb4 HB.out)
          clear K2 hb4
          go_wp2
          exact bodyPost_ret (v := .tuple #[.int .i64 d1, .int .i64 d2]) (by simp [results, Try.results7, go_sem]) rfl ⟨by rw [HEE.out], HB4.out⟩
end Go.Proofs.Ytdpmhpmnkollaaa
namespace Go.Proofs.Ytdpmhpmnkollaaa
open Go.RowKit Go.Shelf
set_option linter.unusedSimpArgs false
set_option linter.unusedVariables false
attribute [local go_sem] Oper.semAt_some

structure DwV (w : World) (Gm : Nat) (v : Value) (s : DfS) (W : World) : Prop where
  gm : W.heap[Gm]? = some (.cells (s.1.map cBo).toArray 4)
  go : W.ownsRow w.heap.size 3 1 v s.2.length (s.2.map cI)
  b : Below w.heap.size w W
  gb : w.heap.size ≤ Gm
  ne : v.ownBlock ≠ some Gm
theorem own_ge16 {W : World} {base e size n : Nat} {v : Value} {xs : List Value} (h : W.ownsRow base e size v n xs) {z : Nat} (hz : v.ownBlock = some z) : base ≤ z := by
  rcases h.2 with h1 | ⟨g, cap, cur, e, h1, h2, h3⟩
  · rw [h1.1] at hz; cases hz
  · rw [e] at hz
    injection hz with hz
    subst hz
    exact h1
section
variable {w W W' : World} {Gm : Nat} {v : Value} {s : DfS}
theorem DwV.below (h : DwV w Gm v s W) (hb : Below W.heap.size W W') : DwV w Gm v s W' := ⟨(hb.block _ (lt_16 h.gm)).trans h.gm, own_b13 hb h.go, keepb hb h.b, h.gb, h.ne⟩
theorem DwV.met (h : DwV w Gm v s W) (k : Nat) : DwV w Gm v (s.1.set k true, s.2) (W.setCell ⟨Gm, k, none⟩ (.bool true)) := by
  refine ⟨?_, own_far16 h.go _ h.ne, h.b.setCell (p := ⟨Gm, k, none⟩) h.gb _, h.gb, h.ne⟩
  rw [set_16 h.gm, map_set16]
theorem DwV.cell (h : DwV w Gm v s W) {k : Nat} (hk : k < s.1.length) : W.cell? ⟨Gm, k, none⟩ = some (.bool (s.1.getD k false)) := by
  refine at_16 h.gm k _ ?_
  rw [List.getElem?_toArray, List.getElem?_map, List.getElem?_eq_getElem hk, List.getD_eq_getElem?_getD, List.getElem?_eq_getElem hk]
  rfl
theorem DwV.app (h : DwV w Gm v s W) {x : Int} {g cap : Nat} (ho : W'.ownsRow w.heap.size 3 1 (.slice (some ⟨g, 0, none⟩) (s.2.length + 1) cap) (s.2.length + 1) (s.2.map cI ++ [cI x])) (hg : W.grownBy W' v.ownBlock) (hat : v.ownBlock = some g ∨ g = W.heap.size) : DwV w Gm (.slice (some ⟨g, 0, none⟩) (s.2.length + 1) cap) (s.1, s.2 ++ [x]) W' := by
  refine ⟨(hg.block _ (lt_16 h.gm) (fun e => h.ne e.symm)).trans h.gm, ?_, h.b.grown hg h.b.size (fun r e => own_ge16 h.go e), h.gb, ?_⟩
  · simp only [List.length_append, List.map_append, List.length_cons, List.length_nil, List.map_cons, List.map_nil]
    exact ho
  · rcases hat with h1 | h1
    · show some g ≠ some Gm
      rw [← h1]; exact h.ne
    · have := lt_16 h.gm
      intro e
      have : g = Gm := Option.some.inj e
      omega
end
set_option maxRecDepth 100000 in
set_option maxHeartbeats 16000000 in
theorem rwalk_any (v : Value) (L : List Nde) (w : World) (Gm : Nat) (hv : RwD w v L) (ok : NdsOk L) (hl : L.length ≤ 1000000) (hr : ∀ d ∈ L, d.r.length ≤ 1000000) : ∀ (f n : Nat) (s : DfS) (c : Nat) (vd : Value) (W : World), n < L.length → s.1.getD n false = false → CntD L.length c s → L.length ≤ n + f → DwV w Gm vd s W →
    Calls Try.prog 28 #[v, .int .i64 (n : Int), .slice (some ⟨Gm, 0, none⟩) L.length L.length, vd] W fun e W' => ∃ v', e = .returned v' ∧ DwV w Gm v' (dfs L f n s) W' := by
  intro f
  induction f with
  | zero => intro n s c vd W hn _ _ hf; omega
  | succ f ih =>
  intro n s c vd W hn hs0 hcnt hf hD
  obtain ⟨i0, hi, hz0, hz1, hz2⟩ := info13 Try.infoN16
  obtain ⟨⟨db, dr⟩, hd⟩ : ∃ d, L[n]? = some d := ⟨L[n], by simp [hn]⟩
  have hmem := List.mem_of_getElem? hd
  have hdr := hr _ hmem
  have HIH := hid13 ih
  have HE := hid13 (dfs_succ L f n s _ hd)
  have HLd := hid13 (fun r (h1 : r ∈ dr) (h2 : r.k = true) => ok.lead hd h1 h2)
  have HCn := hid13 (cnt_set16 hcnt hn hs0)
  obtain ⟨ao, lc, hvf, hlc, hrow⟩ := id hv
  obtain ⟨b, off, hao, hcell⟩ := hrow.resolve_left (by rintro rfl; simp at hn)
  obtain ⟨vr, -, x1, hR⟩ := hcell n _ hd
  subst hao
  subst hvf
  have hni : (n : Int) < (L.length : Int) := by omega
  have HN : Hid (n < L.length ∧ L.length ≤ n + (f + 1) ∧ L.length ≤ 1000000) := ⟨hn, hf, hl⟩
  obtain ⟨vo, vc, rfl, -, hrr⟩ := hR
  have HR := hid13 hrr
  have HX1 := hid13 x1
  dsimp only at hdr HE
  have g0 := hD.cell (k := n) (by rw [hcnt.1]; exact hn)
  rw [hs0] at g0
  have g0f := fr_16 (j := n) hD.gm
  have D1 := hD.met n
  have x1 := keepc D1.b x1
  obtain ⟨S1, hS1⟩ : ∃ S1 : DfS, S1 = (s.1.set n true, s.2) := ⟨_, rfl⟩
  rw [← hS1] at D1 HE HCn
  have HD1 := hid13 D1
  have md : IntKind.i64.wrap ((dr.length : Int) - 1) = (dr.length : Int) - 1 := by rw [IntKind.wrap_i64]; omega
  clear hcell hrow hrr D1 hmem ih hs0 hcnt hf hr hv hD hS1 hd
  go_enter Try.func28, Try.ntmps28
  go_wp2_with fail
  revert HD1
  generalize W.setCell ⟨Gm, n, none⟩ (.bool true) = W1
  intro HD1
  go_loopg [3, 9] dr.length (fun g dv kv wr => ∃ vd, dv = vd ∧ g ≤ dr.length ∧ kv = .int .i64 ((g : Int) - 1) ∧ Hid (DwV w Gm vd ((dr.drop g).reverse.foldl (stpR (dfs L f)) S1) wr ∧ CntD L.length (c + 1) ((dr.drop g).reverse.foldl (stpR (dfs L f)) S1)))
  case atStart => exact ⟨vd, rfl, Nat.le_refl _, rfl, by rw [List.drop_length]; exact ⟨HD1.out, HCn.out⟩⟩
  case round =>
    clear HD1 x1 HCn md g0 g0f
    obtain ⟨ud, hud, hg, rfl, HS⟩ := hrel
    replace hud := hud.symm
    subst hud
    by_cases h0 : gk = 0
    · rw [h0, List.drop_zero] at HS
      have hneg : ¬ (0 : Int) ≤ (gk : Int) - 1 := by omega
      have HE2 := hid13 HE.out
      generalize dr.reverse.foldl (stpR (dfs L f)) S1 = S at *
      have HD := hid13 HS.out.1
      have HCc : Hid (S.2.length + 1 ≤ L.length) := hid13 (by
        have h1 := HS.out.2.2
        have h2 := HS.out.2.1
        have h3 : S.1.count true ≤ S.1.length := List.count_le_length
        omega)
      have h63 : S.2.length + 1 ≤ maxLen := by have := HCc.out; unfold maxLen; omega
      have h47 : (S.2.length + 1) * 8 ≤ 140737488355328 := by have := HCc.out; omega
      have q9 := bl1 wr (.cells #[.int .i64 (n : Int)] 3)
      have HO9 := hid13 (own_b13 q9 HD.out.go)
      have HD9 := hid13 (HD.out.below q9)
      have HS9 : Hid (w.heap.size ≤ (wr.alloc (.cells #[.int .i64 (n : Int)] 3)).heap.size) := hid13 (Nat.le_trans HD.out.b.size q9.size)
      clear hg h0 HS q9 HD
      go_wp2_with (at_builtin; apply stopHere9)
      refine (show wpList _ _ _ _ _ _ from ?_)
      refine wpList_append_lies _ rfl _ _ 37 rfl w.heap.size 3 i0 (.int .i64 0) 1 8 Try.underlying37 hi hz0 hz1 hz2 rfl (by decide) _ _ _ rfl HO9.out ⟨wr.heap.size, 0, none⟩ 1 1 [.int .i64 (n : Int)] rfl rfl (news13 (by simp [go_sem])) (by intro u hu; simp at hu; subst hu; rfl) (by decide) h63 h47 HS9.out _ rfl ?_
      intro g4 cap4 w4 hown4 hgrow hat hlt4
      have HF := hid13 (HD9.out.app (x := (n : Int)) hown4 hgrow hat)
      clear hgrow hat hown4 hlt4 h63 h47 HO9 HS9 HD9
      go_wp2
      go_ret
      exact ⟨_, rfl, by rw [HE2.out]; exact HF.out⟩
    · obtain ⟨k, hk⟩ : ∃ k, k + 1 = gk := ⟨gk - 1, by omega⟩
      have hkl : k < dr.length := by omega
      have ek : (gk : Int) - 1 = (k : Int) := by omega
      rw [ek]
      have hki : (k : Int) < (dr.length : Int) := by omega
      obtain ⟨rb, rof, rfl, hrc⟩ := HR.out.resolve_left (by rintro rfl; simp at hkl)
      obtain ⟨r, hrr⟩ : ∃ r, dr[k]? = some r := ⟨_, List.getElem?_eq_getElem hkl⟩
      have HF : Hid ((dr.drop k).reverse.foldl (stpR (dfs L f)) S1 = stpR (dfs L f) ((dr.drop gk).reverse.foldl (stpR (dfs L f)) S1) r) := by
        show _ = _
        have e : dr.drop k = r :: dr.drop (k + 1) := by
          obtain ⟨h1, h2⟩ := List.getElem?_eq_some_iff.mp hrr
          rw [List.drop_eq_getElem_cons h1, h2]
        rw [e, hk, List.reverse_cons, List.foldl_append]; rfl
      generalize (dr.drop gk).reverse.foldl (stpR (dfs L f)) S1 = S at *
      have HD := hid13 HS.out.1
      have HCS := hid13 HS.out.2
      obtain ⟨r0, r1, r2, r3⟩ := hrc k r hrr
      have HKn := hid13 (HLd.out r (List.mem_of_getElem? hrr))
      have r0 := keepc HD.out.b r0
      have r1 := keepc HD.out.b r1
      have r2 := keepc HD.out.b r2
      have r3 := keepc HD.out.b r3
      have x1 := keepc HD.out.b HX1.out
      obtain ⟨rf, rk, rn⟩ := r
      dsimp only at r0 r1 r2 r3 HKn
      have q7 := bl1 wr (.cells #[.int .u64 (hI rf), .int .u64 (lI rf), .bool rk, .int .i64 rn] 50)
      have HD7 := hid13 (HD.out.below q7)
      have mk : IntKind.i64.wrap ((k : Int) - 1) = (k : Int) - 1 := by rw [IntKind.wrap_i64]; omega
      have HK : Hid (k + 1 = gk ∧ k < dr.length) := ⟨hk, hkl⟩
      have hk0 : (0 : Int) ≤ (k : Int) := by omega
      clear hrc hrr q7 hk hg h0 ek HS
      cases rk with
      | false =>
        have HD8 : Hid (DwV w Gm ud ((dr.drop k).reverse.foldl (stpR (dfs L f)) S1) (wr.alloc (.cells #[.int .u64 (hI rf), .int .u64 (lI rf), .bool false, .int .i64 rn] 50)) ∧ CntD L.length (c + 1) ((dr.drop k).reverse.foldl (stpR (dfs L f)) S1)) := by
          show _ ∧ _
          rw [HF.out]
          exact ⟨HD7.out, HCS.out⟩
        clear HD7 HD HF HKn
        go_wp2
        go_roundg k
        case measure => have := HK.out; omega
        case rel => exact ⟨_, rfl, by have := HK.out; omega, rfl, HD8⟩
      | true =>
        obtain ⟨k1, k2, k3⟩ := HKn.out rfl
        obtain ⟨q, hq⟩ : ∃ q : Nat, q = rn.toNat := ⟨_, rfl⟩
        rw [← hq] at k1 k2 k3
        subst k3
        have hqi : (q : Int) < (L.length : Int) := by omega
        have c0 := HD7.out.cell (k := q) (by rw [HCS.out.1]; exact k2)
        cases hm : S.1.getD q false with
        | true =>
          rw [hm] at c0
          have HD8 : Hid (DwV w Gm ud ((dr.drop k).reverse.foldl (stpR (dfs L f)) S1) (wr.alloc (.cells #[.int .u64 (hI rf), .int .u64 (lI rf), .bool true, .int .i64 (q : Int)] 50)) ∧ CntD L.length (c + 1) ((dr.drop k).reverse.foldl (stpR (dfs L f)) S1)) := by
            show _ ∧ _
            have e9 : stpR (dfs L f) S ⟨rf, true, (q : Int)⟩ = S := by unfold stpR; dsimp only; rw [Int.toNat_natCast, hm]; rfl
            rw [HF.out, e9]
            exact ⟨HD7.out, HCS.out⟩
          clear HD7 HD HF HKn hm hq k1 k2
          go_wp2
          go_roundg k
          case measure => have := HK.out; omega
          case rel => exact ⟨_, rfl, by have := HK.out; omega, rfl, HD8⟩
        | false =>
          rw [hm] at c0
          have HG : Hid (stpR (dfs L f) S ⟨rf, true, (q : Int)⟩ = dfs L f q S) := by show _ = _; unfold stpR; dsimp only; rw [Int.toNat_natCast, hm]; rfl
          have KD := HIH.out q S (c + 1) ud (wr.alloc (.cells #[.int .u64 (hI rf), .int .u64 (lI rf), .bool true, .int .i64 (q : Int)] 50)) k2 hm HCS.out (by have := HN.out; omega) HD7.out
          have HC2 := hid13 (dfs_cnt ok f q S (c + 1) k2 hm HCS.out (by have := HN.out; omega))
          clear hm hq k1 k2 HD7 HD HKn
          go_wp2_with fail
          refine KD.mono ?_
          rintro e V2 ⟨v2, rfl, hD2⟩
          have HD8 : Hid (DwV w Gm v2 ((dr.drop k).reverse.foldl (stpR (dfs L f)) S1) V2 ∧ CntD L.length (c + 1) ((dr.drop k).reverse.foldl (stpR (dfs L f)) S1)) := by
            show _ ∧ _
            rw [HF.out, HG.out]
            exact ⟨hD2, HC2.out⟩
          clear KD hD2 HF HG
          go_wp2
          go_roundg k
          case measure => have := HK.out; omega
          case rel => exact ⟨_, rfl, by have := HK.out; omega, rfl, HD8⟩
end Go.Proofs.Ytdpmhpmnkollaaa
namespace Go.Proofs.Ytdpmhpmnkollaaa
open Go.RowKit Go.Shelf
set_option linter.unusedSimpArgs false
set_option linter.unusedVariables false
attribute [local go_sem] Oper.semAt_some

set_option maxRecDepth 20000 in
set_option maxHeartbeats 8000000 in
theorem rorder12_any (v : Value) (L : List Nde) (w : World) (hv : RwD w v L) (ok : NdsOk L) (hl : L.length ≤ 1000000) (hr : ∀ d ∈ L, d.r.length ≤ 1000000) :
    Calls Try.prog 13 #[v, .int .i64 0] w fun e w' => ∃ v', e = .returned v' ∧ w'.ownsRow w.heap.size 3 1 v' (ordL L).length ((ordL L).map cI) ∧ Below w.heap.size w w' := by
  obtain ⟨i0, hi, hz0, hz1, hz2⟩ := info13 Try.infoO16
  obtain ⟨ao, c, hvf, -⟩ := id hv
  have h0 := ok.1
  have KD := fun W vd h => rwalk_any v L w w.heap.size hv ok hl hr L.length 0 (List.replicate L.length false, []) 0 vd W h0 (by rw [List.getD_eq_getElem?_getD, List.getElem?_replicate_of_lt h0]; rfl) ⟨by simp, by simp [List.count_replicate]⟩ (by omega) h
  have HCn := hid13 (dfs_cnt ok L.length 0 (List.replicate L.length false, []) 0 h0 (by rw [List.getD_eq_getElem?_getD, List.getElem?_replicate_of_lt h0]; rfl) ⟨by simp, by simp [List.count_replicate]⟩ (by omega))
  have HOr : Hid (ordL L = (dfs L L.length 0 (List.replicate L.length false, [])).2.reverse) := rfl
  simp only [Int.natCast_zero] at KD
  subst hvf
  clear hv hr
  go_enter Try.func13, Try.ntmps13
  go_wp2_with (at_make; apply stopHere9)
  refine (show wpList _ _ _ _ _ _ from ?_)
  refine wpList_make16 _ rfl _ _ 55 rfl 4 i0 (.bool false) Try.underlying55 hi hz0 .i64 .i64 _ _ L.length L.length rfl rfl rfl rfl (Nat.le_refl _) (by rw [hz2]; omega) (by unfold maxLen; omega) ?_
  have eO : madeCells (Value.bool false).cells (L.length * i0.size) = ((List.replicate L.length false).map cBo).toArray := by rw [hz1, Nat.mul_one, List.map_replicate]; exact made_one16 _ _
  rw [eO]
  obtain ⟨O1, hO1⟩ : ∃ O : Obj, O = .cells ((List.replicate L.length false).map cBo).toArray 4 := ⟨_, rfl⟩
  rw [← hO1]
  have D0 : DwV w w.heap.size (.slice none 0 0) (List.replicate L.length false, []) (w.alloc O1) := ⟨by rw [hO1]; exact new_16 _ _, World.ownsRow_nil _ _ _ _, bl1 _ _, Nat.le_refl _, fun e => by cases e⟩
  have KD1 := KD _ _ D0
  clear D0 KD eO hO1
  generalize dfs L L.length 0 (List.replicate L.length false, []) = S at *
  go_wp2_with fail
  refine KD1.mono ?_
  rintro e W2 ⟨v2, rfl, hD2⟩
  obtain ⟨o2, c2, hv2⟩ := own_form hD2.go
  subst hv2
  have hSl : S.2.length ≤ L.length := by
    have h1 := HCn.out.2
    have h2 := HCn.out.1
    have h3 : S.1.count true ≤ S.1.length := List.count_le_length
    omega
  have HO := hid13 hD2.go
  have HB := hid13 hD2.b
  have HSl : Hid (S.2.length ≤ 1000000) := hid13 (by omega)
  have m0 : IntKind.i64.wrap ((S.2.length : Int) - 1) = (S.2.length : Int) - 1 := by rw [IntKind.wrap_i64]; omega
  generalize S.2 = xs at *
  clear KD1 hD2 HCn hSl
  go_wp2_with fail
  go_loopw [6, 7] (fun x2 x3 wr => ∃ (i : Nat) (ys : List Int), x2 = .int .i64 (i : Int) ∧ x3 = .int .i64 ((xs.length : Int) - 1 - i) ∧ Hid (i ≤ xs.length ∧ RvI xs ys i ∧ wr.ownsRow w.heap.size 3 1 (.slice o2 xs.length c2) xs.length (ys.map cI) ∧ Below w.heap.size w wr)) (fun x2 x3 wr => xs.length - (intOf x2).toNat)
  case atStart => exact ⟨0, xs, rfl, by simp, hid13 ⟨Nat.zero_le _, ⟨rfl, fun k hk => by rw [if_neg (by omega)]⟩, HO.out, HB.out⟩⟩
  case round =>
    clear HO HB m0
    obtain ⟨i, ys, rfl, rfl, HS⟩ := hrel
    by_cases hlt : 2 * i + 1 < xs.length
    · obtain ⟨j, hj⟩ : ∃ j, j = xs.length - 1 - i := ⟨_, rfl⟩
      have ej : (xs.length : Int) - 1 - (i : Int) = (j : Int) := by omega
      rw [ej]
      have hij : (i : Int) < (j : Int) := by omega
      have hne : i ≠ j := by omega
      have hni : (i : Int) < (xs.length : Int) := by omega
      have hnj : (j : Int) < (xs.length : Int) := by omega
      have hyl : ys.length = xs.length := HS.out.2.1.1
      obtain ⟨a, ha⟩ : ∃ a, ys[i]? = some a := ⟨ys[i]'(by omega), List.getElem?_eq_getElem _⟩
      obtain ⟨b, hb⟩ : ∃ b, ys[j]? = some b := ⟨ys[j]'(by omega), List.getElem?_eq_getElem _⟩
      obtain ⟨g, ho2, hgw⟩ : ∃ g, o2 = some ⟨g, 0, none⟩ ∧ w.heap.size ≤ g := by
        rcases HS.out.2.2.1.2 with h1 | ⟨g, cap, cur, e, h1, -⟩
        · have := h1.1
          injection this with _ e2 _
          omega
        · injection e with e1 _ _
          exact ⟨g, e1, h1⟩
      subst ho2
      obtain ⟨c1, f1⟩ := own_cell16 HS.out.2.2.1 ha
      obtain ⟨c2', f2⟩ := own_cell16 HS.out.2.2.1 hb
      have HN : Hid (RvI xs ((ys.set i b).set j a) (i + 1)) := hid13 (by have := rv_step HS.out.2.1 hlt a b ha (by rw [← hj]; exact hb); rwa [← hj] at this)
      have HJ : Hid (i + 1 ≤ xs.length ∧ (j : Int) = (xs.length : Int) - 1 - i) := ⟨by omega, ej.symm⟩
      have mi : IntKind.i64.wrap ((i : Int) + 1) = ((i + 1 : Nat) : Int) := by rw [IntKind.wrap_i64]; have := HSl.out; push_cast; omega
      have mj : IntKind.i64.wrap ((j : Int) - 1) = (xs.length : Int) - 1 - ((i + 1 : Nat) : Int) := by rw [IntKind.wrap_i64]; have := HSl.out; push_cast; omega
      have HGw := hid13 hgw
      clear hj ej hyl ha hb hlt hgw
      go_wp2_with fail
      go_region
      have k1 := own_set16 HS.out.2.2.1 i b
      have k2 := own_set16 k1.1 j a
      have HO2 := hid13 (k2.1.drew)
      have HG2 : Hid (Below w.heap.size w ((wr.setCell ⟨g, i, none⟩ (.int .i64 b)).setCell ⟨g, j, none⟩ (.int .i64 a)).drew) := hid13 ((((HS.out.2.2.2.setCell (p := ⟨g, i, none⟩) HGw.out _).setCell (p := ⟨g, j, none⟩) HGw.out _)).drew)
      clear k1 k2 c1 f1 c2' f2 HS
      go_wp2
      go_roundw
      case rel => exact ⟨i + 1, (ys.set i b).set j a, by first | rfl | simp, by first | rfl | simp, hid13 ⟨HJ.out.1, HN.out, HO2.out, HG2.out⟩⟩
      case measure => have := HJ.out.1; first | (simp [intOf]; done) | (simp [intOf]; omega) | (unfold intOf; simp; omega)
    · have hge : ¬ (i : Int) < (xs.length : Int) - 1 - (i : Int) := by omega
      have HE := hid13 (rv_end HS.out.2.1 (by omega))
      have HFo := hid13 HS.out.2.2.1
      have HFb := hid13 HS.out.2.2.2
      clear hlt HS
      go_wp2
      go_ret
      refine ⟨_, rfl, ?_, HFb.out⟩
      rw [HOr.out, List.length_reverse, ← HE.out]
      exact HFo.out
end Go.Proofs.Ytdpmhpmnkollaaa
