/-
  Part 18 of the proof: 2 texts, one behind the other.
-/
import Derived.Test.YtdpfdlkaickkiaaPart17
import Derived.Test.YtdpfdlkaickkiaaPart1
import Derived.Test.YtdpfdlkaickkiaaPart6
import Derived.Deep.QuietTactic
import Derived.BigQuiet
namespace Go.Proofs.Ytdpfdlkaickkiaa
open Go.RowKit Go.Shelf
set_option linter.unusedSimpArgs false
set_option linter.unusedVariables false
attribute [local go_sem] Oper.semAt_some

structure WyV (w : World) (P : Prs) (W : World) : Prop where
  g : W.heap[w.heap.size]? = some (.cells (fsV P).toArray 3)
  m : W.heap[w.heap.size + 1]? = some (.cells (snV P).toArray 3)
  b : Below w.heap.size w W
section
variable {w W W' : World} {P : Prs}
theorem WyV.below (h : WyV w P W) (hb : Below W.heap.size W W') : WyV w P W' := ⟨(hb.block _ (lt_16 h.g)).trans h.g, (hb.block _ (lt_16 h.m)).trans h.m, keepb hb h.b⟩
theorem WyV.up (h : WyV w P W) (b m : Int) (k : Nat) : WyV w (upR b m P (k : Int)) ((W.setCell ⟨w.heap.size, k, none⟩ (.int .i64 (max (P.getD k (0, 0)).1 b))).setCell ⟨w.heap.size + 1, k, none⟩ (.int .i64 (max (P.getD k (0, 0)).2 m))) := by
  refine ⟨?_, ?_, ?_⟩
  · rw [far_16 (by omega), set_16 h.g, List.setIfInBounds_toArray, up_fs]
  · have : (W.setCell ⟨w.heap.size, k, none⟩ (.int .i64 (max (P.getD k (0, 0)).1 b))).heap[w.heap.size + 1]? = some (.cells (snV P).toArray 3) := (far_16 (by omega)).trans h.m
    rw [set_16 this, List.setIfInBounds_toArray, up_sn]
  · exact (h.b.setCell (p := ⟨w.heap.size, k, none⟩) (Nat.le_refl _) _).setCell (p := ⟨w.heap.size + 1, k, none⟩) (Nat.le_succ _) _
end
set_option maxRecDepth 100000 in
set_option maxHeartbeats 16000000 in
theorem rways_one (F : Int) (v : Value) (r : List Rn) (w : World) (hF0 : 0 ≤ F) (hv : RwD w v [⟨0, r⟩]) (hk : kidL r = []) :
    Calls Try.prog 35 #[.int .i64 F, v] w fun e w' => e = .returned (.tuple #[.int .i64 (deepR F [⟨0, r⟩]).1, .int .i64 (deepR F [⟨0, r⟩]).2]) ∧ Below w.heap.size w w' := by
  obtain ⟨i0, hi, hz0, hz1, hz2⟩ := info13 Try.infoN16
  rw [deep_zero hF0 hk]
  obtain ⟨ao, c, rfl, hc, hrow⟩ := hv
  obtain ⟨b, off, rfl, hcell⟩ := hrow.resolve_left (by simp)
  obtain ⟨vr, x0, x1, hR⟩ := hcell 0 _ rfl
  rw [Nat.zero_mul, Nat.add_zero] at x0
  replace x0 : w.cell? ⟨b, off, none⟩ = some (.int .i64 0) := x0
  clear hcell hrow hR x1
  show Calls Try.prog 35 #[.int .i64 F, .slice (some ⟨b, off, none⟩) 1 c] w _
  go_enter Try.func35, Try.ntmps35
  go_wp2_with (at_make; apply stopHere9)
  refine (show wpList _ _ _ _ _ _ from ?_)
  refine wpList_make16 _ rfl _ _ 61 rfl 3 i0 (.int .i64 0) Try.underlying61 hi hz0 .i64 .i64 _ _ 1 1 rfl rfl rfl rfl (Nat.le_refl _) (by rw [hz2]; omega) (by unfold maxLen; omega) ?_
  obtain ⟨O1, hO1⟩ : ∃ O : Obj, O = .cells (madeCells (Value.int IntKind.i64 0).cells (1 * i0.size)) 3 := ⟨_, rfl⟩
  rw [← hO1]
  have HO1 := hid13 hO1
  clear hO1
  go_wp2_with (at_make; apply stopHere9)
  refine (show wpList _ _ _ _ _ _ from ?_)
  refine wpList_make16 _ rfl _ _ 61 rfl 3 i0 (.int .i64 0) Try.underlying61 hi hz0 .i64 .i64 _ _ 1 1 rfl rfl rfl rfl (Nat.le_refl _) (by rw [hz2]; omega) (by unfold maxLen; omega) ?_
  rw [← HO1.out]
  have hb := bl2 w O1 O1
  have x0 := keepc hb x0
  have HB := hid13 hb
  clear hb HO1
  go_wp2_with fail
  revert HB x0
  generalize (w.alloc O1).alloc O1 = W0
  intro x0 HB
  go_loopg [8, 9] 1 (fun g dv iv wr => wr = W0 ∧ dv = .int .i64 0 ∧ (g = 1 ∧ iv = .int .i64 0 ∨ g = 0 ∧ iv = .int .i64 1))
  case atStart => exact ⟨rfl, rfl, .inl ⟨rfl, rfl⟩⟩
  case round =>
    obtain ⟨rfl, rfl, h | h⟩ := hrel
    · obtain ⟨rfl, rfl⟩ := h
      go_wp2
      go_roundg 0
      case measure => omega
      case rel => exact ⟨rfl, rfl, .inr ⟨rfl, rfl⟩⟩
    · obtain ⟨rfl, rfl⟩ := h
      go_wp2
      exact bodyPost_ret (v := .tuple #[.int .i64 0, .int .i64 0]) (by simp [results, Try.results35, go_sem]) rfl ⟨rfl, HB.out⟩
set_option maxRecDepth 100000 in
set_option maxHeartbeats 16000000 in
theorem rways_any (F : Int) (v : Value) (L : List Nde) (w : World) (hF0 : 0 ≤ F) (hF : F ≤ 128) (hv : RwD w v L) (ok : NdsOk L) (hl : L.length ≤ 1000000) (hr : ∀ d ∈ L, d.r.length ≤ 1000000) :
    Calls Try.prog 35 #[.int .i64 F, v] w fun e w' => e = .returned (.tuple #[.int .i64 (deepR F L).1, .int .i64 (deepR F L).2]) ∧ Below w.heap.size w w' := by
  rcases ok.one with hb1 | ⟨r, rfl, hk0⟩
  rotate_left
  · exact rways_one F v r w hF0 hv hk0
  obtain ⟨i0, hi, hz0, hz1, hz2⟩ := info13 Try.infoN16
  obtain ⟨ao, c, rfl, hc, hrow⟩ := hv
  obtain ⟨b, off, rfl, hcell⟩ := hrow.resolve_left (by rintro rfl; exact absurd ok.1 (by simp))
  have HC := hid13 hcell
  have HL : Hid (L.length ≤ 1000000 ∧ (∀ d ∈ L, d.r.length ≤ 1000000) ∧ (∀ d ∈ L, 1 ≤ d.b)) := ⟨hl, hr, hb1⟩
  have HOk := hid13 ok
  have HFF : Hid (F ≤ 128) := hF
  obtain ⟨E, hE⟩ : ∃ E, E = deepR F L := ⟨_, rfl⟩
  rw [← hE]
  have HE0 : Hid (dpG F L 0 (List.replicate L.length (0, 0)) 0 = E) := hE.symm
  clear hcell hrow hr hb1 hE ok
  go_enter Try.func35, Try.ntmps35
  go_wp2_with (at_make; apply stopHere9)
  refine (show wpList _ _ _ _ _ _ from ?_)
  refine wpList_make16 _ rfl _ _ 61 rfl 3 i0 (.int .i64 0) Try.underlying61 hi hz0 .i64 .i64 _ _ L.length L.length rfl rfl rfl rfl (Nat.le_refl _) (by rw [hz2]; omega) (by unfold maxLen; omega) ?_
  have eO : madeCells (Value.int IntKind.i64 0).cells (L.length * i0.size) = (List.replicate L.length (Value.int .i64 0)).toArray := by rw [hz1, Nat.mul_one]; exact made_one16 _ _
  rw [eO]
  obtain ⟨O1, hO1⟩ : ∃ O : Obj, O = .cells (List.replicate L.length (Value.int .i64 0)).toArray 3 := ⟨_, rfl⟩
  rw [← hO1]
  have HO1 := hid13 hO1
  have HeO := hid13 eO
  clear hO1 eO
  go_wp2_with (at_make; apply stopHere9)
  refine (show wpList _ _ _ _ _ _ from ?_)
  refine wpList_make16 _ rfl _ _ 61 rfl 3 i0 (.int .i64 0) Try.underlying61 hi hz0 .i64 .i64 _ _ L.length L.length rfl rfl rfl rfl (Nat.le_refl _) (by rw [hz2]; omega) (by unfold maxLen; omega) ?_
  rw [HeO.out, ← HO1.out]
  have hO1 := HO1.out
  clear HeO HO1
  have e1 : (w.alloc O1).heap.size = w.heap.size + 1 := by simp
  have Y0 : WyV w (List.replicate L.length (0, 0)) ((w.alloc O1).alloc O1) := by
    refine ⟨?_, ?_, bl2 w _ _⟩
    · rw [fs_rep, ← hO1]; exact old_16 _ (new_16 _ _)
    · rw [sn_rep, ← hO1]
      have := new_16 (w.alloc O1) O1
      rwa [e1] at this
  have HY := hid13 Y0
  clear Y0 hO1 hi hz0 hz1 hz2
  go_wp2_with fail
  revert HY
  generalize (w.alloc O1).alloc O1 = W0
  intro HY
  clear e1
  go_loopg [8, 9] L.length (fun g dv iv wr => ∃ (i : Nat) (e : Int) (P : Prs), i + g = L.length ∧ dv = .int .i64 e ∧ iv = .int .i64 (i : Int) ∧ Hid (dpG F (L.drop i) i P e = E) ∧ Hid (InP L.length i P) ∧ Hid (WyV w P wr))
  case atStart => exact ⟨0, 0, List.replicate L.length (0, 0), by omega, rfl, rfl, HE0, ⟨by simp, fun p hp => by rw [List.eq_of_mem_replicate hp]; simp⟩, HY⟩
  case round =>
    clear HY HE0
    obtain ⟨i, e, P, hk, rfl, rfl, HE, HP, HY⟩ := hrel
    by_cases hlt : (i : Int) < (L.length : Int)
    · have hks : i < L.length := by omega
      obtain ⟨⟨db, dr⟩, hd⟩ : ∃ d, L[i]? = some d := ⟨_, List.getElem?_eq_getElem hks⟩
      have HT := hid13 (dp_drop F L i _ hd P e)
      have hmem := List.mem_of_getElem? hd
      have hdr := HL.out.2.1 _ hmem
      have hdb := HL.out.2.2 _ hmem
      have HKd := hid13 (fun r (h1 : r ∈ dr) (h2 : r.k = true) => HOk.out.lead hd h1 h2)
      have hdb2 := (HOk.out.2 i _ hd).b1
      obtain ⟨vr, x0, x1, hR⟩ := HC.out i _ hd
      dsimp only at x0 hR HT hdr hdb hdb2
      rw [show min 1 db = 1 by omega] at HT
      obtain ⟨vo, vc, rfl, -, hrr⟩ := hR
      have HR := hid13 hrr
      have HX1 := hid13 x1
      have x0 := keepc HY.out.b x0
      have x1 := keepc HY.out.b x1
      have HI := hid13 (HP.out.at i)
      have hPl := HP.out.1
      have y1 := at_16 HY.out.g i _ (fs_at (by rw [hPl]; exact hks))
      have y2 := at_16 HY.out.m i _ (sn_at (by rw [hPl]; exact hks))
      generalize (P.getD i (0, 0)).1 = p1 at *
      generalize (P.getD i (0, 0)).2 = p2 at *
      have e0 : (db == 0) = false := by rw [beq_eq_false_iff_ne]; omega
      obtain ⟨B, hB⟩ : ∃ B, B = p1 + db := ⟨_, rfl⟩
      obtain ⟨M, hM⟩ : ∃ M, M = p2 + 1 := ⟨_, rfl⟩
      rw [← hB, ← hM] at HT
      have m1 : IntKind.i64.wrap (p1 + db) = B := by rw [IntKind.wrap_i64]; have := HI.out; omega
      have m2 : IntKind.i64.wrap (p2 + 1) = M := by rw [IntKind.wrap_i64]; have := HI.out; omega
      have HBM : Hid (0 ≤ B ∧ 0 ≤ M ∧ M ≤ ((i + 1 : Nat) : Int)) := hid13 (by have := HI.out; push_cast; omega)
      have HYd : Hid (WyV w P wr.drew) := ⟨HY.out.g, HY.out.m, HY.out.b.drew⟩
      have mi : IntKind.i64.wrap ((i : Int) + 1) = (i : Int) + 1 := by rw [IntKind.wrap_i64]; omega
      have mx := max_16 e M
      obtain ⟨G, hG⟩ : ∃ G, G = gk := ⟨_, rfl⟩
      have HJ : Hid (i + G = L.length ∧ i < L.length ∧ G = gk) := ⟨by omega, by omega, hG⟩
      clear hG hk hB hM HI hrr hPl hdb hdb2
      go_wp2_with fail
      go_region
      clear y1 m1
      by_cases hbF : F < B
      · have HEE : Hid (E = (0, 27)) := by show _ = _; rw [← HE.out, HT.out, if_pos hbF]
        have HB2 := hid13 HYd.out.b
        clear HE HT HP HY HYd
        go_wp2
        exact bodyPost_ret (v := .tuple #[.int .i64 0, .int .i64 27]) (by simp [results, Try.results35, go_sem]) rfl ⟨by rw [HEE.out], HB2.out⟩
      · have HEE : Hid (dpG F (L.drop (i + 1)) (i + 1) ((kidL dr).foldl (upR B M) P) (max e M) = E) := by show _ = _; rw [← HE.out, HT.out, if_neg hbF]
        have HIn := hid13 (InP.ups B M HBM.out.1 (by have := HFF.out; omega) HBM.out.2.1 HBM.out.2.2 (kidL dr) (HP.out.more (Nat.le_succ i)))
        have HPi := hid13 (HP.out.more (Nat.le_succ i))
        clear HE HT HP HY
        go_wp2_with fail
        go_loopg [12] dr.length (fun g jv wr2 => ∃ j : Nat, j + g = dr.length ∧ jv = .int .i64 (j : Int) ∧ Hid (WyV w ((kidL (dr.take j)).foldl (upR B M) P) wr2))
        case atStart => exact ⟨0, by omega, rfl, HYd⟩
        case round =>
          clear HYd x0 x1 y2
          obtain ⟨j, hj, rfl, HY⟩ := hrel
          have x1 := keepc HY.out.b HX1.out
          by_cases hlt3 : (j : Int) < (dr.length : Int)
          · have hjs : j < dr.length := by omega
            obtain ⟨rb, rof, rfl, hrc⟩ := HR.out.resolve_left (by rintro rfl; simp at hjs)
            obtain ⟨r, hr⟩ : ∃ r, dr[j]? = some r := ⟨_, List.getElem?_eq_getElem hjs⟩
            obtain ⟨r0, r1, r2, r3⟩ := hrc j r hr
            have HTk := hid13 (kid_take dr j r hr)
            have HKn := hid13 (HKd.out r (List.mem_of_getElem? hr))
            have HPj := hid13 (InP.ups B M HBM.out.1 (by have := HFF.out; omega) HBM.out.2.1 HBM.out.2.2 (kidL (dr.take j)) HPi.out)
            have r0 := keepc HY.out.b r0
            have r1 := keepc HY.out.b r1
            have r2 := keepc HY.out.b r2
            have r3 := keepc HY.out.b r3
            obtain ⟨rf, rk, rn⟩ := r
            dsimp only at r0 r1 r2 r3 HTk HKn
            have q7 := bl1 wr (.cells #[.int .u64 (hI rf), .int .u64 (lI rf), .bool rk, .int .i64 rn] 54)
            have HY7 := hid13 (HY.out.below q7)
            have mj : IntKind.i64.wrap ((j : Int) + 1) = (j : Int) + 1 := by rw [IntKind.wrap_i64]; omega
            have HK : Hid (j + gk = dr.length ∧ j < dr.length) := ⟨hj, hjs⟩
            clear hj hrc hr q7
            cases rk with
            | false =>
              have HY8 : Hid (WyV w ((kidL (dr.take (j + 1))).foldl (upR B M) P) (wr.alloc (.cells #[.int .u64 (hI rf), .int .u64 (lI rf), .bool false, .int .i64 rn] 54))) := by
                show WyV _ _ _
                rw [HTk.out]
                exact HY7.out
              clear HY7 HY HTk HKn
              go_wp2
              go_roundg (gk - 1)
              case measure => have := HK.out; omega
              case rel => exact ⟨j + 1, by have := HK.out; omega, rfl, HY8⟩
            | true =>
              obtain ⟨-, k2, k3⟩ := HKn.out rfl
              obtain ⟨q, hq⟩ : ∃ q : Nat, q = rn.toNat := ⟨_, rfl⟩
              rw [← hq] at k2 k3
              subst k3
              have hqi : (q : Int) < (L.length : Int) := by omega
              generalize hPj : (kidL (dr.take j)).foldl (upR B M) P = Pj at *
              have y1 := at_16 HY7.out.g q _ (fs_at (by rw [HPj.out.1]; exact k2))
              have y2 := at_16 HY7.out.m q _ (sn_at (by rw [HPj.out.1]; exact k2))
              have f1 := fr_16 (j := q) HY7.out.g
              have f2 := fr_16 (j := q) HY7.out.m
              have HY8 := hid13 (HY7.out.up B M q)
              have HTe : Hid ((kidL (dr.take (j + 1))).foldl (upR B M) P = upR B M Pj (q : Int)) := by
                show _ = _
                rw [HTk.out, ← hPj]
                show (kidL (dr.take j) ++ [(q : Int)]).foldl (upR B M) P = _
                rw [List.foldl_append]; rfl
              generalize (Pj.getD q (0, 0)).1 = a1 at *
              generalize (Pj.getD q (0, 0)).2 = a2 at *
              have mx1 := max_16 a1 B
              have mx2 := max_16 a2 M
              have hne : wr.heap.size ≠ w.heap.size := by have := lt_16 HY.out.g; omega
              have z3 : ((wr.alloc (.cells #[.int .u64 (hI rf), .int .u64 (lI rf), .bool true, .int .i64 (q : Int)] 54)).setCell ⟨w.heap.size, q, none⟩ (.int .i64 (max a1 B))).drew.cell? ⟨wr.heap.size, 3, none⟩ = some (.int .i64 (q : Int)) := at_16 (W := ((wr.alloc (.cells #[.int .u64 (hI rf), .int .u64 (lI rf), .bool true, .int .i64 (q : Int)] 54)).setCell ⟨w.heap.size, q, none⟩ (.int .i64 (max a1 B)))) ((far_16 hne).trans (new_16 _ _)) 3 _ rfl
              have y2' : ((wr.alloc (.cells #[.int .u64 (hI rf), .int .u64 (lI rf), .bool true, .int .i64 (q : Int)] 54)).setCell ⟨w.heap.size, q, none⟩ (.int .i64 (max a1 B))).drew.cell? ⟨w.heap.size + 1, q, none⟩ = some (.int .i64 a2) := at_16 (W := ((wr.alloc (.cells #[.int .u64 (hI rf), .int .u64 (lI rf), .bool true, .int .i64 (q : Int)] 54)).setCell ⟨w.heap.size, q, none⟩ (.int .i64 (max a1 B)))) ((far_16 (by omega)).trans HY7.out.m) q _ (by have := y2; simp only [World.cell?, HY7.out.m] at this; exact this)
              have f2' : ((wr.alloc (.cells #[.int .u64 (hI rf), .int .u64 (lI rf), .bool true, .int .i64 (q : Int)] 54)).setCell ⟨w.heap.size, q, none⟩ (.int .i64 (max a1 B))).drew.frozen? ⟨w.heap.size + 1, q, none⟩ = false := fr_16 (W := ((wr.alloc (.cells #[.int .u64 (hI rf), .int .u64 (lI rf), .bool true, .int .i64 (q : Int)] 54)).setCell ⟨w.heap.size, q, none⟩ (.int .i64 (max a1 B)))) ((far_16 (by omega)).trans HY7.out.m)
              clear hPj HTk HKn HY7 HY hq k2 y2 f2
              have HZ3 := hid13 z3
              have HY2 := hid13 y2'
              have HF2 := hid13 f2'
              clear z3 y2' f2'
              go_wp2_with fail
              go_region
              have z3 := HZ3.out
              have y2' := HY2.out
              have f2' := HF2.out
              clear HZ3 HY2 HF2
              go_wp2_with fail
              go_region
              have HY9 : Hid (WyV w ((kidL (dr.take (j + 1))).foldl (upR B M) P) (((wr.alloc (.cells #[.int .u64 (hI rf), .int .u64 (lI rf), .bool true, .int .i64 (q : Int)] 54)).setCell ⟨w.heap.size, q, none⟩ (.int .i64 (max a1 B))).drew.setCell ⟨w.heap.size + 1, q, none⟩ (.int .i64 (max a2 M))).drew) := by
                show WyV _ _ _
                rw [HTe.out]
                exact ⟨HY8.out.g, HY8.out.m, ⟨HY8.out.b.os, HY8.out.b.tape, HY8.out.b.output, HY8.out.b.size, HY8.out.b.block⟩⟩
              clear z3 y2' f2' HY8 HTe
              go_wp2
              go_roundg (gk - 1)
              case measure => have := HK.out; omega
              case rel => exact ⟨j + 1, by have := HK.out; omega, rfl, HY9⟩
          · clear hj
            have HYe : Hid (WyV w ((kidL dr).foldl (upR B M) P) wr) := by
              have := HY.out
              rw [List.take_of_length_le (by omega)] at this
              exact this
            clear HY
            go_wp2
            go_roundg (G - 1)
            case measure => have := HJ.out; omega
            case rel => exact ⟨i + 1, max e M, _, by have := HJ.out; omega, rfl, rfl, HEE, HIn, HYe⟩
    · have hie : i = L.length := by omega
      have HEE : Hid (E = (e, 0)) := by
        show _ = _
        rw [← HE.out, List.drop_eq_nil_of_le (by omega)]; rfl
      have HB := hid13 HY.out.b
      clear HE HP HY
      go_wp2
      exact bodyPost_ret (v := .tuple #[.int .i64 e, .int .i64 0]) (by simp [results, Try.results35, go_sem]) rfl ⟨by rw [HEE.out], HB.out⟩
end Go.Proofs.Ytdpfdlkaickkiaa
namespace Go.Proofs.Ytdpfdlkaickkiaa
open Go.RowKit
set_option linter.unusedSimpArgs false
set_option linter.unusedVariables false

def Rd (w : World) (B : Nat) (x : BitVec 128) : Prop := w.cell? ⟨B, 0, none⟩ = some (.int .u64 (hI x)) ∧ w.cell? ⟨B, 1, none⟩ = some (.int .u64 (lI x))
theorem Rd.keep {W w' : World} {B : Nat} {x : BitVec 128} (h : Rd W B x) (hb : Below W.heap.size W w') : Rd w' B x := ⟨keepc hb h.1, keepc hb h.2⟩
theorem Rd.alloc {W : World} {B : Nat} {x : BitVec 128} (h : Rd W B x) (o : Obj) : Rd (W.alloc o) B x := h.keep (bl1 W o)
theorem Rd.new (W : World) (x : BitVec 128) (t : TypeId) : Rd (W.alloc (.cells #[.int .u64 (hI x), .int .u64 (lI x)] t)) W.heap.size x := by
  constructor <;> simp [go_sem]
set_option maxHeartbeats 2000000 in
theorem common_any (x y : BitVec 128) (w : World) :
    Calls Try.prog 75 #[.agg #[.int .u64 (hI x), .int .u64 (lI x)], .agg #[.int .u64 (hI y), .int .u64 (lI y)]] w fun e w' => e = .returned (.int .i64 ((leadN (x ^^^ y) : Nat) : Int)) ∧ Below w.heap.size w w' := by
  go_enter Try.func75, Try.ntmps75
  go_wp2
  go_loopw [5] (fun i wr => ∃ k : Nat, k ≤ 128 ∧ i = .int .i64 k ∧ Hid ((x ^^^ y).toNat < 2 ^ (128 - k)) ∧ Rd wr w.heap.size x ∧ Rd wr (w.heap.size + 1) y ∧ Below w.heap.size w wr)
    (fun i _ => 128 - (intOf i).toNat)
  case atStart =>
    refine ⟨0, by omega, rfl, (x ^^^ y).isLt, ?_, ?_, bl2 _ _ _⟩
    · exact (Rd.new w x _).alloc _
    · have := Rd.new (w.alloc (.cells #[.int .u64 (hI x), .int .u64 (lI x)] 44)) y 44
      simpa using this
  case round =>
    obtain ⟨k, hk, rfl, hz, X, Y, hB⟩ := hrel
    have hbl := hB.drew
    by_cases hlt : (k : Int) < 128
    · have hst := bit_step (x ^^^ y) k (by omega) hz.out
      have hbe := bitZ_eq x y k (by omega)
      by_cases c : bitZ x (k : Int) = bitZ y (k : Int)
      · have hz' : Hid ((x ^^^ y).toNat < 2 ^ (128 - (k + 1))) := hst.1 (hbe.mp c)
        have hc : (bitZ x (k : Int) == bitZ y (k : Int)) = true := by simpa using c
        clear hst hbe hz c
        go_wp2
        go_region_held3 (fun w' => w'.cell? ⟨w.heap.size, 0, none⟩ = some (.int .u64 (hI x)) ∧ w'.cell? ⟨w.heap.size, 1, none⟩ = some (.int .u64 (lI x)) ∧ w'.cell? ⟨w.heap.size + 1, 0, none⟩ = some (.int .u64 (hI y)) ∧ w'.cell? ⟨w.heap.size + 1, 1, none⟩ = some (.int .u64 (lI y)) ∧ Below w.heap.size w w')
          (first
            | (obtain ⟨k1, k2, k3, k4, k9⟩ := ‹_ ∧ _›; exact ⟨keepc hb1 k1, keepc hb1 k2, keepc hb1 k3, keepc hb1 k4, keepb hb1 k9⟩)
            | exact ⟨X.1, X.2, Y.1, Y.2, hbl⟩)
          (first | (go_at_call 88; refine (rbit_any _ _ _).mono ?_; rintro e w1 ⟨rfl, hb1⟩))
        obtain ⟨k1, k2, k3, k4, kB⟩ := ‹_ ∧ _›
        go_wp2
        go_roundw
        case rel => exact ⟨k + 1, by omega, by go_num, hz', ⟨k1, k2⟩, ⟨k3, k4⟩, kB⟩
        case measure => simp [intOf]; omega
      · have hz' : Hid (2 ^ (127 - k) ≤ (x ^^^ y).toNat) := by
          apply hst.2
          cases hh : (x ^^^ y).getLsbD (127 - k)
          · exact absurd (hbe.mpr hh) c
          · rfl
        have hc : (bitZ x (k : Int) == bitZ y (k : Int)) = false := by simpa using c
        have HL : Hid (leadN (x ^^^ y) = k) := lead_char _ _ hk hz.out (Or.inr hz'.out)
        clear hst hbe hz hz' c
        go_wp2
        go_region_held3 (fun w' => w'.cell? ⟨w.heap.size, 0, none⟩ = some (.int .u64 (hI x)) ∧ w'.cell? ⟨w.heap.size, 1, none⟩ = some (.int .u64 (lI x)) ∧ w'.cell? ⟨w.heap.size + 1, 0, none⟩ = some (.int .u64 (hI y)) ∧ w'.cell? ⟨w.heap.size + 1, 1, none⟩ = some (.int .u64 (lI y)) ∧ Below w.heap.size w w')
          (first
            | (obtain ⟨k1, k2, k3, k4, k9⟩ := ‹_ ∧ _›; exact ⟨keepc hb1 k1, keepc hb1 k2, keepc hb1 k3, keepc hb1 k4, keepb hb1 k9⟩)
            | exact ⟨X.1, X.2, Y.1, Y.2, hbl⟩)
          (first | (go_at_call 88; refine (rbit_any _ _ _).mono ?_; rintro e w1 ⟨rfl, hb1⟩))
        obtain ⟨k1, k2, k3, k4, kB⟩ := ‹_ ∧ _›
        go_wp2
        go_ret
        exact ⟨by rw [HL.out]; rfl, kB⟩
    · have hk8 : k = 128 := by omega
      have HL : Hid (leadN (x ^^^ y) = k) := lead_char _ _ hk hz.out (Or.inl hk8)
      have hd : decide ((k : Int) < 128) = false := by simpa using hlt
      clear hlt hz hk8
      go_wp2
      go_quiet (fail)
      go_wp2
      go_ret
      exact ⟨by rw [HL.out]; rfl, below_drewN hB _⟩

set_option maxHeartbeats 1000000 in
theorem rlead_any (x : BitVec 128) (w : World) :
    Calls Try.prog 53 #[.agg #[.int .u64 (hI x), .int .u64 (lI x)]] w fun e w' => e = .returned (.int .i64 ((leadN x : Nat) : Int)) ∧ Below w.heap.size w w' := by
  have hc := fun w => common_any x 0#128 w
  rw [hI_zero, lI_zero, BitVec.xor_zero] at hc
  go_enter Try.func53, Try.ntmps53
  go_wp2_with fail
  refine (hc _).mono ?_
  rintro e w1 ⟨rfl, hb1⟩
  clear hc
  go_wp2
  go_ret
  exact ⟨rfl, keepb hb1 (bl1 _ _)⟩

end Go.Proofs.Ytdpfdlkaickkiaa
