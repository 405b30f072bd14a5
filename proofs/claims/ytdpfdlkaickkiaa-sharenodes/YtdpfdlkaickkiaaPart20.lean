/-
  Part 20 of the proof: 8 texts, one behind the other.
-/
import Derived.Test.YtdpfdlkaickkiaaPart18
import Derived.Test.YtdpfdlkaickkiaaPart19
import Derived.Test.YtdpfdlkaickkiaaPart8
import Derived.Test.YtdpfdlkaickkiaaPart3
namespace Go.Proofs.Ytdpfdlkaickkiaa
open Go.RowKit Go.Shelf
set_option linter.unusedSimpArgs false
set_option linter.unusedVariables false
attribute [local go_sem] Oper.semAt_some

theorem isFam16 (F : Int) (w : World) :
    Calls Try.prog 33 #[.int .i64 F] w fun e w' => e = .returned (.bool (fam F)) ∧ w' = w := by
  unfold fam
  by_cases h1 : F = 32
  · subst h1
    go_enter Try.func33, Try.ntmps33
    go_wp2
    go_ret
    exact ⟨rfl, rfl⟩
  · have b1 : (F == 32) = false := by simp [h1]
    have b2 : (F == 128) = decide (F = 128) := by rw [Bool.eq_iff_iff]; simp
    rw [show decide (F = 32) = false by simp [h1], Bool.false_or]
    go_enter Try.func33, Try.ntmps33
    go_wp2
    go_ret
    exact ⟨rfl, rfl⟩
structure MkV (w : World) (m : List Bool) (W : World) : Prop where
  g : W.heap[w.heap.size]? = some (.cells (m.map cBo).toArray 4)
  b : Below w.heap.size w W
section
variable {w W W' : World} {m : List Bool}
theorem MkV.below (h : MkV w m W) (hb : Below W.heap.size W W') : MkV w m W' := ⟨(hb.block _ (lt_16 h.g)).trans h.g, keepb hb h.b⟩
theorem MkV.put (h : MkV w m W) (k : Nat) : MkV w (mkK m (k : Int)) (W.setCell ⟨w.heap.size, k, none⟩ (.bool true)) := by
  refine ⟨?_, h.b.setCell (p := ⟨w.heap.size, k, none⟩) (Nat.le_refl _) _⟩
  rw [set_16 h.g, map_set16]
  unfold mkK
  rw [Int.toNat_natCast]
theorem MkV.cell (h : MkV w m W) {k : Nat} (hk : k < m.length) : W.cell? ⟨w.heap.size, k, none⟩ = some (.bool (m.getD k false)) := by
  refine at_16 h.g k _ ?_
  rw [List.getElem?_toArray, List.getElem?_map, List.getElem?_eq_getElem hk, List.getD_eq_getElem?_getD, List.getElem?_eq_getElem hk]
  rfl
end
set_option maxRecDepth 100000 in
set_option maxHeartbeats 16000000 in
theorem rcheck_any (F : Int) (v : Value) (L : List Nde) (w : World) (hv : RwD w v L) (hl : L.length ≤ 1000000) (hr : ∀ d ∈ L, d.r.length ≤ 1000000) :
    Calls Try.prog 20 #[.int .i64 F, v] w fun e w' => e = .returned (.tuple #[.int .i64 (chkM F L).1, .int .i64 (chkM F L).2]) ∧ Below w.heap.size w w' := by
  obtain ⟨i0, hi, hz0, hz1, hz2⟩ := info13 Try.infoO16
  have KF := fun w => isFam16 F w
  have HCm : Hid (chkM F L = if fam F = true then (if nodesE L = 0 then (if usedB L = true then deepR F L else (0, 31)) else (0, nodesE L)) else (0, 11)) := rfl
  have HFw := hid13 (fam_ways F)
  obtain ⟨R, hR⟩ : ∃ R, R = chkM F L := ⟨_, rfl⟩
  rw [← hR] at HCm ⊢
  clear hR
  obtain ⟨ao, c, hvf, hc, hrow⟩ := id hv
  have HV := hid13 hv
  subst hvf
  cases hf : fam F with
  | false =>
    rw [hf] at KF HCm
    have HE : Hid (R = (0, 11)) := HCm
    clear hf hrow HV hv HFw HCm
    go_enter Try.func20, Try.ntmps20
    go_wp2_with fail
    refine (KF _).mono ?_
    rintro e w1 ⟨rfl, hw⟩
    subst hw
    clear KF
    go_wp2
    exact bodyPost_ret (v := .tuple #[.int .i64 0, .int .i64 11]) (by simp [results, Try.results20, go_sem]) rfl ⟨by rw [HE.out], Below.refl _ _⟩
  | true =>
  rw [hf, if_pos rfl] at HCm
  rw [hf] at KF
  have HFF : Hid (0 ≤ F ∧ F ≤ 128) := hid13 (by rcases HFw.out hf with rfl | rfl <;> decide)
  clear HFw hf
  by_cases h0 : L = []
  · have HE : Hid (R = (0, 2)) := by
      show _ = _
      rw [HCm.out]
      unfold nodesE
      rw [if_pos h0]; rfl
    subst h0
    clear HV hv HCm hrow
    go_enter Try.func20, Try.ntmps20
    go_wp2_with fail
    refine (KF _).mono ?_
    rintro e w1 ⟨rfl, hw⟩
    subst hw
    clear KF
    go_wp2
    exact bodyPost_ret (v := .tuple #[.int .i64 0, .int .i64 2]) (by simp [results, Try.results20, go_sem]) rfl ⟨by rw [HE.out], Below.refl _ _⟩
  have hp := List.length_pos_iff.mpr h0
  obtain ⟨nb, nof, rfl, hcell⟩ := hrow.resolve_left h0
  have HC := hid13 hcell
  obtain ⟨E, hE⟩ : ∃ E, E = ndsE L.length 0 L := ⟨_, rfl⟩
  have HNE : Hid (nodesE L = E) := by show _ = _; unfold nodesE; rw [if_neg h0, hE]
  have HE0 : Hid (ndsE L.length 0 (L.drop 0) = E) := hE.symm
  have HL : Hid (L.length ≤ 1000000 ∧ (∀ d ∈ L, d.r.length ≤ 1000000) ∧ 0 < L.length) := ⟨hl, hr, hp⟩
  have e1 : ((L.length : Int) == 0) = false := by rw [beq_eq_false_iff_ne]; omega
  clear hE h0 hcell hrow hr hp hv
  go_enter Try.func20, Try.ntmps20
  go_wp2_with fail
  refine (KF _).mono ?_
  rintro e w1 ⟨rfl, hw⟩
  subst hw
  clear KF
  go_wp2_with (at_make; apply stopHere9)
  refine (show wpList _ _ _ _ _ _ from ?_)
  refine wpList_make16 _ rfl _ _ 76 rfl 4 i0 (.bool false) Try.underlying76 hi hz0 .i64 .i64 _ _ L.length L.length rfl rfl rfl rfl (Nat.le_refl _) (by rw [hz2]; omega) (by unfold maxLen; omega) ?_
  have eO : madeCells (Value.bool false).cells (L.length * i0.size) = ((List.replicate L.length false).map cBo).toArray := by rw [hz1, Nat.mul_one, List.map_replicate]; exact made_one16 _ _
  rw [eO]
  obtain ⟨O1, hO1⟩ : ∃ O : Obj, O = .cells ((List.replicate L.length false).map cBo).toArray 4 := ⟨_, rfl⟩
  rw [← hO1]
  have HM0 : Hid (MkV w1 (mkL L 0) (w1.alloc O1)) := hid13 ⟨by rw [hO1]; exact new_16 _ _, bl1 _ _⟩
  clear eO hO1 hi hz0 hz1 hz2 e1
  go_wp2_with fail
  revert HM0
  generalize w1.alloc O1 = W0
  intro HM0
  go_loopg [7] L.length (fun g iv wr => ∃ i : Nat, i + g = L.length ∧ iv = .int .i64 (i : Int) ∧ Hid (ndsE L.length i (L.drop i) = E) ∧ Hid (MkV w1 (mkL L i) wr))
  case atStart => exact ⟨0, by omega, rfl, HE0, HM0⟩
  case round =>
    clear HM0 HE0
    obtain ⟨i, hk, rfl, HE, HM⟩ := hrel
    by_cases hlt : (i : Int) < (L.length : Int)
    · have hks : i < L.length := by omega
      have HD := hid13 (nds_drop (L.length : Int) L i hks)
      have hdd := List.getElem?_eq_getElem hks
      have hdr := HL.out.2.1 _ (List.getElem_mem hks)
      generalize L[i] = d at *
      have hd : L[i]? = some d := hdd
      obtain ⟨db, dr⟩ := d
      obtain ⟨vr, x0, x1, hR⟩ := HC.out i _ hd
      have HMs := hid13 (mkL_step L i _ hd)
      have HMl := hid13 (mkL_size L i)
      dsimp only at x0 hR hdr HMs
      have hRw := hR.below HM.out.b
      obtain ⟨vo, vc, hvr, -, hrr⟩ := id hR
      subst hvr
      have HR := hid13 hrr
      have x0 := keepc HM.out.b x0
      have x1 := keepc HM.out.b x1
      have q1 := bl1 wr (.cells #[.int .i64 db, .slice vo dr.length vc] 57)
      have HN1 := hid13 (new_16 wr (.cells #[.int .i64 db, .slice vo dr.length vc] 57))
      have HM1 := hid13 (HM.out.below q1)
      have HRw := hid13 (hRw.below q1)
      obtain ⟨NB, hNB⟩ : ∃ NB, NB = wr.heap.size := ⟨_, rfl⟩
      have HNb : Hid (NB ≠ w1.heap.size ∧ NB = wr.heap.size) := ⟨by have := lt_16 HM.out.g; omega, hNB⟩
      obtain ⟨y0, y1⟩ := atd_new wr db (.slice vo dr.length vc) 57
      have HNd : Hid (∀ ee, ndeE ⟨db, dr⟩ i L.length = ee → ee ≠ 0 → R = (0, ee)) := fun ee h1 h2 => by
        have e9 : E = ee := by rw [← HE.out, HD.out, h1, if_neg h2]
        rw [HCm.out, HNE.out, e9, if_neg h2]
      have HNz : Hid (ndeE ⟨db, dr⟩ i L.length = 0 → ndsE L.length (i + 1) (L.drop (i + 1)) = E) := fun h1 => by
        rw [← HE.out, HD.out, if_pos h1]
      have HNn : Hid (ndeE ⟨db, dr⟩ i L.length = if argB db L.length = true then (if ioB ⟨db, dr⟩ = true then runsE i L.length dr else 19) else 1) := rfl
      generalize ndeE ⟨db, dr⟩ i L.length = nE at *
      have mi : IntKind.i64.wrap ((i : Int) + 1) = (i : Int) + 1 := by rw [IntKind.wrap_i64]; omega
      obtain ⟨G, hG⟩ : ∃ G, G = gk := ⟨_, rfl⟩
      have HJ : Hid (i + G = L.length ∧ i < L.length ∧ G = gk) := ⟨by omega, by omega, hG⟩
      clear hNB q1 hR hRw hrr hd hdd HD HE HM hG hk
      by_cases hlo : db < 0
      · have HEE := hid13 (HNd.out 1 (by rw [HNn.out]; rw [if_neg (by unfold argB bitsB; simp; omega)]) (by decide))
        have HB := hid13 HM1.out.b
        clear HNd HNz HNn HRw HM1
        go_wp2
        exact bodyPost_ret (v := .tuple #[.int .i64 0, .int .i64 1]) (by simp [results, Try.results20, go_sem]) rfl ⟨by rw [HEE.out], HB.out⟩
      by_cases hhi : 128 < db
      · have HEE := hid13 (HNd.out 1 (by rw [HNn.out]; rw [if_neg (by unfold argB bitsB; simp; omega)]) (by decide))
        have HB := hid13 HM1.out.b
        clear HNd HNz HNn HRw HM1
        go_wp2
        exact bodyPost_ret (v := .tuple #[.int .i64 0, .int .i64 1]) (by simp [results, Try.results20, go_sem]) rfl ⟨by rw [HEE.out], HB.out⟩
      have KR := rruns_any db _ dr _ HRw.out hdr (by omega) (by omega)
      cases e3 : (db == 0) with
      | false =>
        have hne : db ≠ 0 := by simpa using e3
        replace HNn : Hid (nE = if ioB ⟨db, dr⟩ = true then runsE i L.length dr else 19) := by show _ = _; rw [HNn.out]; rw [if_pos (by unfold argB bitsB; simp [hne]; omega)]
        clear hne
        generalize hio : ioB ⟨db, dr⟩ = io at *
        clear hio
        go_wp2_with fail
        refine KR.mono ?_
        rintro e w3 ⟨rfl, hb3⟩
        have HM3 := hid13 (HM1.out.below hb3)
        have HN3 := hid13 ((hb3.block _ (lt_16 HN1.out)).trans HN1.out)
        clear KR hb3 HM1 HN1 HRw y0 y1 x0 x1
        cases io with
        | false =>
          have HEE := hid13 (HNd.out 19 HNn.out (by decide))
          have HB := hid13 HM3.out.b
          clear HNd HNz HNn HM3 HN3
          go_wp2
          exact bodyPost_ret (v := .tuple #[.int .i64 0, .int .i64 19]) (by simp [results, Try.results20, go_sem]) rfl ⟨by rw [HEE.out], HB.out⟩
        | true =>
          replace HNn : Hid (nE = runsE i L.length dr) := HNn
          rw [← HNb.out.2] at HN3 ⊢
          replace HNb : Hid (NB ≠ w1.heap.size) := HNb.out.1
          go_wp2_with fail
          go_loopg [9] dr.length (fun g kv wr2 => ∃ k : Nat, k + g = dr.length ∧ kv = .int .i64 (k : Int) ∧ Hid (runsE i L.length (dr.drop k) = nE) ∧ Hid (MkV w1 ((kidL (dr.take k)).foldl mkK (mkL L i)) wr2) ∧ Hid (wr2.heap[NB]? = some (.cells #[.int .i64 db, .slice vo dr.length vc] 57)))
          case atStart => exact ⟨0, by omega, rfl, HNn.out.symm, HM3, HN3⟩
          case round =>
            clear HM3 HN3
            obtain ⟨k, hk, rfl, HG, HM4, HN4⟩ := hrel
            have a1 := at_16 HN4.out 1 _ rfl
            by_cases hlt3 : (k : Int) < (dr.length : Int)
            · have hjs : k < dr.length := by omega
              obtain ⟨rb, rof, rfl, hrc⟩ := HR.out.resolve_left (by rintro rfl; simp at hjs)
              have HRd := hid13 (runs_drop (i : Int) (L.length : Int) dr k hjs)
              have hrr := List.getElem?_eq_getElem hjs
              generalize dr[k] = r at *
              have hr : dr[k]? = some r := hrr
              obtain ⟨r0, r1, r2, r3⟩ := hrc k r hr
              have HTk := hid13 (kid_take dr k r hr)
              have r0 := keepc HM4.out.b r0
              have r1 := keepc HM4.out.b r1
              have r2 := keepc HM4.out.b r2
              have r3 := keepc HM4.out.b r3
              have HRe : Hid (runE r i L.length = if r.k then (if r.n ≤ i ∨ (L.length : Int) ≤ r.n then 26 else 0) else (if r.n < 0 ∨ 65535 < r.n then 15 else 0)) := rfl
              have HRb : Hid (∀ ee, runE r i L.length = ee → ee ≠ 0 → R = (0, ee)) := fun ee h1 h2 => by
                refine HNd.out ee ?_ h2
                rw [← HG.out, HRd.out, h1, if_neg h2]
              have HRz : Hid (runE r i L.length = 0 → runsE i L.length (dr.drop (k + 1)) = nE) := fun h1 => by rw [← HG.out, HRd.out, if_pos h1]
              generalize runE r i L.length = rE at *
              obtain ⟨rf, rk, rn⟩ := r
              dsimp only at r0 r1 r2 r3 HTk HRe
              have q7 := bl1 wr (.cells #[.int .u64 (hI rf), .int .u64 (lI rf), .bool rk, .int .i64 rn] 54)
              have HM7 := hid13 (HM4.out.below q7)
              have HN7 := hid13 ((q7.block _ (lt_16 HN4.out)).trans HN4.out)
              have hRN : wr.heap.size ≠ w1.heap.size := by have := lt_16 HM4.out.g; omega
              have mk : IntKind.i64.wrap ((k : Int) + 1) = (k : Int) + 1 := by rw [IntKind.wrap_i64]; omega
              have HK : Hid (k + gk = dr.length ∧ k < dr.length) := ⟨hk, hjs⟩
              obtain ⟨z0, z1, z2, z3⟩ := rnat_new wr ⟨rf, rk, rn⟩ 54
              dsimp only at z0 z1 z2 z3
              have HBm := hid13 HM7.out.b
              clear hk hrc hr hrr q7 HG HRd HM4 HN4
              cases rk with
              | false =>
                by_cases hn0 : rn < 0
                · have HEE := hid13 (HRb.out 15 (by rw [HRe.out]; simp [hn0]) (by decide))
                  clear HRb HRz HRe HM7 HN7 HTk
                  go_wp2
                  exact bodyPost_ret (v := .tuple #[.int .i64 0, .int .i64 15]) (by simp [results, Try.results20, go_sem]) rfl ⟨by rw [HEE.out], HBm.out⟩
                by_cases hn1 : 65535 < rn
                · have HEE := hid13 (HRb.out 15 (by rw [HRe.out]; simp [hn1]) (by decide))
                  clear HRb HRz HRe HM7 HN7 HTk
                  go_wp2
                  exact bodyPost_ret (v := .tuple #[.int .i64 0, .int .i64 15]) (by simp [results, Try.results20, go_sem]) rfl ⟨by rw [HEE.out], HBm.out⟩
                have HEE := hid13 (HRz.out (by rw [HRe.out]; simp; omega))
                have HM8 : Hid (MkV w1 ((kidL (dr.take (k + 1))).foldl mkK (mkL L i)) (wr.alloc (.cells #[.int .u64 (hI rf), .int .u64 (lI rf), .bool false, .int .i64 rn] 54))) := by
                  show MkV _ _ _
                  rw [HTk.out]
                  exact HM7.out
                clear HRb HRz HRe HM7 HTk
                go_wp2
                go_roundg (gk - 1)
                case measure => have := HK.out; omega
                case rel => exact ⟨k + 1, by have := HK.out; omega, rfl, HEE, HM8, HN7⟩
              | true =>
                by_cases hn0 : rn ≤ (i : Int)
                · have HEE := hid13 (HRb.out 26 (by rw [HRe.out]; simp [hn0]) (by decide))
                  clear HRb HRz HRe HM7 HN7 HTk
                  go_wp2
                  exact bodyPost_ret (v := .tuple #[.int .i64 0, .int .i64 26]) (by simp [results, Try.results20, go_sem]) rfl ⟨by rw [HEE.out], HBm.out⟩
                by_cases hn1 : (L.length : Int) ≤ rn
                · have HEE := hid13 (HRb.out 26 (by rw [HRe.out]; simp [hn1]) (by decide))
                  clear HRb HRz HRe HM7 HN7 HTk
                  go_wp2
                  exact bodyPost_ret (v := .tuple #[.int .i64 0, .int .i64 26]) (by simp [results, Try.results20, go_sem]) rfl ⟨by rw [HEE.out], HBm.out⟩
                have HEE := hid13 (HRz.out (by rw [HRe.out]; simp; omega))
                obtain ⟨q, rfl⟩ : ∃ q : Nat, rn = (q : Int) := ⟨rn.toNat, by omega⟩
                have hqi : (q : Int) < (L.length : Int) := by omega
                have hql : q < L.length := by omega
                have g0 := HM7.out.cell (k := q) (by rw [mkF_len, HMl.out]; exact hql)
                have g0f := fr_16 (j := q) HM7.out.g
                have HM8 : Hid (MkV w1 ((kidL (dr.take (k + 1))).foldl mkK (mkL L i)) ((wr.alloc (.cells #[.int .u64 (hI rf), .int .u64 (lI rf), .bool true, .int .i64 (q : Int)] 54)).setCell ⟨w1.heap.size, q, none⟩ (.bool true))) := by
                  show MkV _ _ _
                  have e9 : kidL (dr.take (k + 1)) = kidL (dr.take k) ++ [(q : Int)] := HTk.out
                  rw [e9, List.foldl_append]
                  exact HM7.out.put q
                have HN8 : Hid (((wr.alloc (.cells #[.int .u64 (hI rf), .int .u64 (lI rf), .bool true, .int .i64 (q : Int)] 54)).setCell ⟨w1.heap.size, q, none⟩ (.bool true)).heap[NB]? = some (.cells #[.int .i64 db, .slice (some ⟨rb, rof, none⟩) dr.length vc] 57)) := (far_16 HNb.out).trans HN7.out
                generalize ((kidL (dr.take k)).foldl mkK (mkL L i)).getD q false = was at *
                clear HRb HRz HRe HM7 HTk hql HN7
                go_wp2
                go_roundg (gk - 1)
                case measure => have := HK.out; omega
                case rel => exact ⟨k + 1, by have := HK.out; omega, rfl, HEE, HM8, HN8⟩
            · have HEE : Hid (nE = 0) := by show _ = _; rw [← HG.out, List.drop_eq_nil_of_le (by omega)]; rfl
              have HEz := hid13 (HNz.out HEE.out)
              have HMe : Hid (MkV w1 (mkL L (i + 1)) wr) := by
                have := HM4.out
                rw [List.take_of_length_le (by omega), ← HMs.out] at this
                exact this
              clear hk HG HM4 HN4
              go_wp2
              go_roundg (G - 1)
              case measure => have := HJ.out; omega
              case rel => exact ⟨i + 1, by have := HJ.out; omega, rfl, HEz, HMe⟩
      | true =>
        have hz : db = 0 := by simpa using e3
        by_cases h1N : (1 : Int) < (L.length : Int)
        · have HEE := hid13 (HNd.out 1 (by rw [HNn.out]; rw [if_neg (by unfold argB bitsB; simp [hz]; omega)]) (by decide))
          have HB := hid13 HM1.out.b
          clear HNd HNz HNn HRw HM1 KR hz
          go_wp2
          exact bodyPost_ret (v := .tuple #[.int .i64 0, .int .i64 1]) (by simp [results, Try.results20, go_sem]) rfl ⟨by rw [HEE.out], HB.out⟩
        replace HNn : Hid (nE = if ioB ⟨db, dr⟩ = true then runsE i L.length dr else 19) := by show _ = _; rw [HNn.out]; rw [if_pos (by unfold argB bitsB; simp [hz]; omega)]
        clear hz
        generalize hio : ioB ⟨db, dr⟩ = io at *
        clear hio
        go_wp2_with fail
        refine KR.mono ?_
        rintro e w3 ⟨rfl, hb3⟩
        have HM3 := hid13 (HM1.out.below hb3)
        have HN3 := hid13 ((hb3.block _ (lt_16 HN1.out)).trans HN1.out)
        clear KR hb3 HM1 HN1 HRw y0 y1 x0 x1
        cases io with
        | false =>
          have HEE := hid13 (HNd.out 19 HNn.out (by decide))
          have HB := hid13 HM3.out.b
          clear HNd HNz HNn HM3 HN3
          go_wp2
          exact bodyPost_ret (v := .tuple #[.int .i64 0, .int .i64 19]) (by simp [results, Try.results20, go_sem]) rfl ⟨by rw [HEE.out], HB.out⟩
        | true =>
          replace HNn : Hid (nE = runsE i L.length dr) := HNn
          rw [← HNb.out.2] at HN3 ⊢
          replace HNb : Hid (NB ≠ w1.heap.size) := HNb.out.1
          go_wp2_with fail
          go_loopg [9] dr.length (fun g kv wr2 => ∃ k : Nat, k + g = dr.length ∧ kv = .int .i64 (k : Int) ∧ Hid (runsE i L.length (dr.drop k) = nE) ∧ Hid (MkV w1 ((kidL (dr.take k)).foldl mkK (mkL L i)) wr2) ∧ Hid (wr2.heap[NB]? = some (.cells #[.int .i64 db, .slice vo dr.length vc] 57)))
          case atStart => exact ⟨0, by omega, rfl, HNn.out.symm, HM3, HN3⟩
          case round =>
            clear HM3 HN3
            obtain ⟨k, hk, rfl, HG, HM4, HN4⟩ := hrel
            have a1 := at_16 HN4.out 1 _ rfl
            by_cases hlt3 : (k : Int) < (dr.length : Int)
            · have hjs : k < dr.length := by omega
              obtain ⟨rb, rof, rfl, hrc⟩ := HR.out.resolve_left (by rintro rfl; simp at hjs)
              have HRd := hid13 (runs_drop (i : Int) (L.length : Int) dr k hjs)
              have hrr := List.getElem?_eq_getElem hjs
              generalize dr[k] = r at *
              have hr : dr[k]? = some r := hrr
              obtain ⟨r0, r1, r2, r3⟩ := hrc k r hr
              have HTk := hid13 (kid_take dr k r hr)
              have r0 := keepc HM4.out.b r0
              have r1 := keepc HM4.out.b r1
              have r2 := keepc HM4.out.b r2
              have r3 := keepc HM4.out.b r3
              have HRe : Hid (runE r i L.length = if r.k then (if r.n ≤ i ∨ (L.length : Int) ≤ r.n then 26 else 0) else (if r.n < 0 ∨ 65535 < r.n then 15 else 0)) := rfl
              have HRb : Hid (∀ ee, runE r i L.length = ee → ee ≠ 0 → R = (0, ee)) := fun ee h1 h2 => by
                refine HNd.out ee ?_ h2
                rw [← HG.out, HRd.out, h1, if_neg h2]
              have HRz : Hid (runE r i L.length = 0 → runsE i L.length (dr.drop (k + 1)) = nE) := fun h1 => by rw [← HG.out, HRd.out, if_pos h1]
              generalize runE r i L.length = rE at *
              obtain ⟨rf, rk, rn⟩ := r
              dsimp only at r0 r1 r2 r3 HTk HRe
              have q7 := bl1 wr (.cells #[.int .u64 (hI rf), .int .u64 (lI rf), .bool rk, .int .i64 rn] 54)
              have HM7 := hid13 (HM4.out.below q7)
              have HN7 := hid13 ((q7.block _ (lt_16 HN4.out)).trans HN4.out)
              have hRN : wr.heap.size ≠ w1.heap.size := by have := lt_16 HM4.out.g; omega
              have mk : IntKind.i64.wrap ((k : Int) + 1) = (k : Int) + 1 := by rw [IntKind.wrap_i64]; omega
              have HK : Hid (k + gk = dr.length ∧ k < dr.length) := ⟨hk, hjs⟩
              obtain ⟨z0, z1, z2, z3⟩ := rnat_new wr ⟨rf, rk, rn⟩ 54
              dsimp only at z0 z1 z2 z3
              have HBm := hid13 HM7.out.b
              clear hk hrc hr hrr q7 HG HRd HM4 HN4
              cases rk with
              | false =>
                by_cases hn0 : rn < 0
                · have HEE := hid13 (HRb.out 15 (by rw [HRe.out]; simp [hn0]) (by decide))
                  clear HRb HRz HRe HM7 HN7 HTk
                  go_wp2
                  exact bodyPost_ret (v := .tuple #[.int .i64 0, .int .i64 15]) (by simp [results, Try.results20, go_sem]) rfl ⟨by rw [HEE.out], HBm.out⟩
                by_cases hn1 : 65535 < rn
                · have HEE := hid13 (HRb.out 15 (by rw [HRe.out]; simp [hn1]) (by decide))
                  clear HRb HRz HRe HM7 HN7 HTk
                  go_wp2
                  exact bodyPost_ret (v := .tuple #[.int .i64 0, .int .i64 15]) (by simp [results, Try.results20, go_sem]) rfl ⟨by rw [HEE.out], HBm.out⟩
                have HEE := hid13 (HRz.out (by rw [HRe.out]; simp; omega))
                have HM8 : Hid (MkV w1 ((kidL (dr.take (k + 1))).foldl mkK (mkL L i)) (wr.alloc (.cells #[.int .u64 (hI rf), .int .u64 (lI rf), .bool false, .int .i64 rn] 54))) := by
                  show MkV _ _ _
                  rw [HTk.out]
                  exact HM7.out
                clear HRb HRz HRe HM7 HTk
                go_wp2
                go_roundg (gk - 1)
                case measure => have := HK.out; omega
                case rel => exact ⟨k + 1, by have := HK.out; omega, rfl, HEE, HM8, HN7⟩
              | true =>
                by_cases hn0 : rn ≤ (i : Int)
                · have HEE := hid13 (HRb.out 26 (by rw [HRe.out]; simp [hn0]) (by decide))
                  clear HRb HRz HRe HM7 HN7 HTk
                  go_wp2
                  exact bodyPost_ret (v := .tuple #[.int .i64 0, .int .i64 26]) (by simp [results, Try.results20, go_sem]) rfl ⟨by rw [HEE.out], HBm.out⟩
                by_cases hn1 : (L.length : Int) ≤ rn
                · have HEE := hid13 (HRb.out 26 (by rw [HRe.out]; simp [hn1]) (by decide))
                  clear HRb HRz HRe HM7 HN7 HTk
                  go_wp2
                  exact bodyPost_ret (v := .tuple #[.int .i64 0, .int .i64 26]) (by simp [results, Try.results20, go_sem]) rfl ⟨by rw [HEE.out], HBm.out⟩
                exfalso; omega
            · have HEE : Hid (nE = 0) := by show _ = _; rw [← HG.out, List.drop_eq_nil_of_le (by omega)]; rfl
              have HEz := hid13 (HNz.out HEE.out)
              have HMe : Hid (MkV w1 (mkL L (i + 1)) wr) := by
                have := HM4.out
                rw [List.take_of_length_le (by omega), ← HMs.out] at this
                exact this
              clear hk HG HM4 HN4
              go_wp2
              go_roundg (G - 1)
              case measure => have := HJ.out; omega
              case rel => exact ⟨i + 1, by have := HJ.out; omega, rfl, HEz, HMe⟩
    · have hie : i = L.length := by omega
      have hE0 : E = 0 := by rw [← HE.out, List.drop_eq_nil_of_le (by omega)]; rfl
      subst hie
      have hn0 : nodesE L = 0 := HNE.out.trans hE0
      have HOk := hid13 (nodes_ok hn0)
      rw [if_pos hn0] at HCm
      have HUs := hid13 (used_iff L HL.out.2.2 HOk.out.kids)
      have KW := fun W (h : RwD W (.slice (some ⟨nb, nof, none⟩) L.length c) L) => rways_any F _ L W HFF.out.1 HFF.out.2 h HOk.out HL.out.1 HL.out.2.1
      have hms := mkL_size L L.length
      have HMs := hid13 hms
      have hlt2 : ¬ (L.length : Int) < (L.length : Int) := by omega
      generalize mkL L L.length = M at *
      generalize usedB L = ub at *
      generalize deepR F L = dd at *
      have HKW := hid13 KW
      clear HE hk hE0 hn0 HNE KW hms
      go_wp2_with fail
      go_loopg [11] (L.length - 1) (fun g iv wr2 => ∃ j : Nat, 1 ≤ j ∧ j + g = L.length ∧ iv = .int .i64 (j : Int) ∧ Hid (∀ z, 1 ≤ z → z < j → M.getD z false = true) ∧ wr2 = wr)
      case atStart => exact ⟨1, by omega, by have := HL.out.2.2; omega, rfl, hid13 (fun z h1 h2 => by omega), rfl⟩
      case round =>
        clear hlt hlt2
        obtain ⟨j, hj1, hj, rfl, HA, hw2⟩ := hrel
        subst hw2
        by_cases hlt : (j : Int) < (L.length : Int)
        · have hjs : j < L.length := by omega
          have y := HM.out.cell (k := j) (by rw [HMs.out]; exact hjs)
          have HB := hid13 HM.out.b
          have HK : Hid (1 ≤ j ∧ j + gk = L.length ∧ j < L.length) := ⟨hj1, hj, hjs⟩
          have mj : IntKind.i64.wrap ((j : Int) + 1) = (j : Int) + 1 := by rw [IntKind.wrap_i64]; omega
          cases hmj : M.getD j false with
          | false =>
            have HEE : Hid (R = (0, 31)) := by
              show _ = _
              rw [HCm.out, if_neg (fun h => by have := HUs.out.mp h j hj1 hjs; rw [hmj] at this; cases this)]
            rw [hmj] at y
            clear HCm HUs HKW HA hmj hj hj1 hjs
            go_wp2
            exact bodyPost_ret (v := .tuple #[.int .i64 0, .int .i64 31]) (by simp [results, Try.results20, go_sem]) rfl ⟨by rw [HEE.out], HB.out⟩
          | true =>
            have HA2 : Hid (∀ z, 1 ≤ z → z < j + 1 → M.getD z false = true) := fun z h1 h2 => by
              by_cases hzj : z = j
              · rw [hzj]; exact hmj
              · exact HA.out z h1 (by omega)
            rw [hmj] at y
            clear hmj hj hj1 hjs HA
            go_wp2
            go_roundg (gk - 1)
            case measure => have := HK.out; omega
            case rel => exact ⟨j + 1, by have := HK.out; omega, by have := HK.out; omega, rfl, HA2, rfl⟩
        · have hje : j = L.length := by omega
          subst hje
          have hu : ub = true := HUs.out.mpr HA.out
          subst hu
          have HEE : Hid (R = dd) := by show _ = _; rw [HCm.out, if_pos rfl]
          have HB := hid13 HM.out.b
          have K2 := HKW.out _ (HV.out.below HB.out)
          have hlt2 : ¬ (L.length : Int) < (L.length : Int) := by omega
          obtain ⟨d1, d2⟩ := dd
          dsimp only at K2
          clear HCm HUs HKW HA hj hj1
          go_wp2_with fail
          refine K2.mono ?_
          rintro e w4 ⟨rfl, hb4⟩
          have HB4 := hid13 (keepb hb4 HB.out)
          clear K2 hb4
          go_wp2
          exact bodyPost_ret (v := .tuple #[.int .i64 d1, .int .i64 d2]) (by simp [results, Try.results20, go_sem]) rfl ⟨by rw [HEE.out], HB4.out⟩
end Go.Proofs.Ytdpfdlkaickkiaa
namespace Go.Proofs.Ytdpfdlkaickkiaa
open Go.RowKit Go.Shelf
set_option linter.unusedSimpArgs false
set_option linter.unusedVariables false
attribute [local go_sem] Oper.semAt_some

structure DwV (w : World) (Gm : Nat) (v : Value) (s : DfS) (W : World) : Prop where
  gm : W.heap[Gm]? = some (.cells (s.1.map cBo).toArray 4)
  go : W.ownsRow w.heap.size 3 1 v s.2.length (s.2.map cI)
  b : Below w.heap.size w W
  gb : w.heap.size ≤ Gm
  ne : v.ownBlock ≠ some Gm
theorem own_ge16 {W : World} {base e size n : Nat} {v : Value} {xs : List Value} (h : W.ownsRow base e size v n xs) {z : Nat} (hz : v.ownBlock = some z) : base ≤ z := by
  rcases h.2 with h1 | ⟨g, cap, cur, e, h1, h2, h3⟩
  · rw [h1.1] at hz; cases hz
  · rw [e] at hz
    injection hz with hz
    subst hz
    exact h1
section
variable {w W W' : World} {Gm : Nat} {v : Value} {s : DfS}
theorem DwV.below (h : DwV w Gm v s W) (hb : Below W.heap.size W W') : DwV w Gm v s W' := ⟨(hb.block _ (lt_16 h.gm)).trans h.gm, own_b13 hb h.go, keepb hb h.b, h.gb, h.ne⟩
theorem DwV.met (h : DwV w Gm v s W) (k : Nat) : DwV w Gm v (s.1.set k true, s.2) (W.setCell ⟨Gm, k, none⟩ (.bool true)) := by
  refine ⟨?_, own_far16 h.go _ h.ne, h.b.setCell (p := ⟨Gm, k, none⟩) h.gb _, h.gb, h.ne⟩
  rw [set_16 h.gm, map_set16]
theorem DwV.cell (h : DwV w Gm v s W) {k : Nat} (hk : k < s.1.length) : W.cell? ⟨Gm, k, none⟩ = some (.bool (s.1.getD k false)) := by
  refine at_16 h.gm k _ ?_
  rw [List.getElem?_toArray, List.getElem?_map, List.getElem?_eq_getElem hk, List.getD_eq_getElem?_getD, List.getElem?_eq_getElem hk]
  rfl
theorem DwV.app (h : DwV w Gm v s W) {x : Int} {g cap : Nat} (ho : W'.ownsRow w.heap.size 3 1 (.slice (some ⟨g, 0, none⟩) (s.2.length + 1) cap) (s.2.length + 1) (s.2.map cI ++ [cI x])) (hg : W.grownBy W' v.ownBlock) (hat : v.ownBlock = some g ∨ g = W.heap.size) : DwV w Gm (.slice (some ⟨g, 0, none⟩) (s.2.length + 1) cap) (s.1, s.2 ++ [x]) W' := by
  refine ⟨(hg.block _ (lt_16 h.gm) (fun e => h.ne e.symm)).trans h.gm, ?_, h.b.grown hg h.b.size (fun r e => own_ge16 h.go e), h.gb, ?_⟩
  · simp only [List.length_append, List.map_append, List.length_cons, List.length_nil, List.map_cons, List.map_nil]
    exact ho
  · rcases hat with h1 | h1
    · show some g ≠ some Gm
      rw [← h1]; exact h.ne
    · have := lt_16 h.gm
      intro e
      have : g = Gm := Option.some.inj e
      omega
end
end Go.Proofs.Ytdpfdlkaickkiaa
namespace Go.Proofs.Ytdpfdlkaickkiaa
open Go.RowKit Go.Shelf
set_option linter.unusedSimpArgs false
set_option linter.unusedVariables false
attribute [local go_sem] Oper.semAt_some

end Go.Proofs.Ytdpfdlkaickkiaa
namespace Go.Proofs.Ytdpfdlkaickkiaa
open Go.RowKit Go.Shelf
set_option linter.unusedSimpArgs false
set_option linter.unusedVariables false
attribute [local go_sem] Oper.semAt_some

end Go.Proofs.Ytdpfdlkaickkiaa
namespace Go.Proofs.Ytdpfdlkaickkiaa
open Go.RowKit Go.Shelf
set_option linter.unusedSimpArgs false
set_option linter.unusedVariables false
attribute [local go_sem] Oper.semAt_some

end Go.Proofs.Ytdpfdlkaickkiaa
namespace Go.Proofs.Ytdpfdlkaickkiaa
open Go.RowKit
set_option linter.unusedSimpArgs false
set_option linter.unusedVariables false

end Go.Proofs.Ytdpfdlkaickkiaa
namespace Go.Proofs.Ytdpfdlkaickkiaa
open Go.RowKit
set_option linter.unusedSimpArgs false
set_option linter.unusedVariables false
attribute [local go_sem] Oper.semAt_some

end Go.Proofs.Ytdpfdlkaickkiaa
namespace Go.Proofs.Ytdpfdlkaickkiaa
open Go.RowKit Go.Shelf
set_option linter.unusedSimpArgs false
set_option linter.unusedVariables false
attribute [local go_sem] Oper.semAt_some

structure PlV (w : World) (vo : Value) (Gp : Nat) (o P : List Int) (W : World) : Prop where
  g : W.heap[Gp]? = some (.cells (P.map cI).toArray 3)
  o : W.ownsRow w.heap.size 3 1 vo o.length (o.map cI)
  b : Below w.heap.size w W
  ge : w.heap.size ≤ Gp
  ne : vo.ownBlock ≠ some Gp
section
variable {w W W' : World} {vo : Value} {Gp : Nat} {o P : List Int}
theorem PlV.below (h : PlV w vo Gp o P W) (hb : Below W.heap.size W W') : PlV w vo Gp o P W' := ⟨(hb.block _ (lt_16 h.g)).trans h.g, own_b13 hb h.o, keepb hb h.b, h.ge, h.ne⟩
theorem PlV.put (h : PlV w vo Gp o P W) (k : Nat) (m : Int) : PlV w vo Gp o (P.set k m) (W.setCell ⟨Gp, k, none⟩ (.int .i64 m)) := by
  refine ⟨?_, own_far16 h.o _ h.ne, h.b.setCell (p := ⟨Gp, k, none⟩) h.ge _, h.ge, h.ne⟩
  rw [set_16 h.g, List.setIfInBounds_toArray, List.map_set]; rfl
end
end Go.Proofs.Ytdpfdlkaickkiaa
