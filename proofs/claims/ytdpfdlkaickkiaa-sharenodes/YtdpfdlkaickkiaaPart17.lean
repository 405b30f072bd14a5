/-
  Part 17 of the proof: 2 texts, one behind the other.
-/
import Derived.Test.YtdpfdlkaickkiaaPart7
import Derived.Test.YtdpfdlkaickkiaaPart8
namespace Go.Proofs.Ytdpfdlkaickkiaa
open Go.RowKit Go.Shelf
set_option linter.unusedSimpArgs false
set_option linter.unusedVariables false
attribute [local go_sem] Oper.semAt_some
attribute [local go_sem] storeF_16

def RevOk (L : List Nde) : Prop := ∀ (n : Nat) (d : Nde), L[n]? = some d → ∀ r ∈ d.r, r.k = true → 0 ≤ r.n ∧ r.n < (n : Int)
theorem RevOk.lead {L : List Nde} (h : RevOk L) {n : Nat} {d : Nde} (hd : L[n]? = some d) {r : Rn} (hr : r ∈ d.r) (hk : r.k = true) : r.n.toNat < n ∧ r.n.toNat < L.length ∧ r.n = (r.n.toNat : Int) := by
  have := h n d hd r hr hk
  have := (List.getElem?_eq_some_iff.mp hd).1
  omega
theorem dfs_cntS {L : List Nde} (ok : RevOk L) : ∀ (f n : Nat) (s : DfS) (c : Nat), n < L.length → s.1.getD n false = false → CntD L.length c s → n < f → CntD L.length c (dfs L f n s)
  | 0, n, s, c, hn, _, _, hf => by omega
  | f + 1, n, s, c, hn, h0, h, hf => by
    obtain ⟨d, hd⟩ : ∃ d, L[n]? = some d := ⟨L[n], by simp [hn]⟩
    rw [dfs_succ L f n s d hd]
    have key := stps_keep (P := CntD L.length (c + 1)) (go := dfs L f) d.r.reverse _ (cnt_set16 h hn h0) (fun r hr m s' hk hm hf' hs' => by
      obtain ⟨a1, a2, -⟩ := ok.lead hd (List.mem_reverse.mp hr) hk
      exact dfs_cntS ok f m s' (c + 1) (by omega) hf' hs' (by omega))
    refine ⟨key.1, ?_⟩
    rw [key.2, List.length_append]
    simp; omega
def ordS (L : List Nde) : List Int := (dfs L L.length (L.length - 1) (List.replicate L.length false, [])).2.reverse
structure DsV (w : World) (v : Value) (N : Nat) (s : DfS) (W : World) : Prop where
  bl : W.heap[w.heap.size]? = some (.cells #[v] 22)
  gm : W.heap[w.heap.size + 1]? = some (.cells (s.1.map cBo).toArray 4)
  bm : W.heap[w.heap.size + 1 + 1]? = some (.cells #[.slice (some ⟨w.heap.size + 1, 0, none⟩) N N] 76)
  go : W.ownsRow w.heap.size 3 1 (.slice (some ⟨w.heap.size + 1 + 1 + 1, 0, none⟩) s.2.length N) s.2.length (s.2.map cI)
  bo : W.heap[w.heap.size + 1 + 1 + 1 + 1]? = some (.cells #[.slice (some ⟨w.heap.size + 1 + 1 + 1, 0, none⟩) s.2.length N] 61)
  bd : W.heap[w.heap.size + 1 + 1 + 1 + 1 + 1]? = some (.cells #[.func (.func 67) #[] #[.pointer (some ⟨w.heap.size + 1 + 1, 0, none⟩), .pointer (some ⟨w.heap.size, 0, none⟩), .pointer (some ⟨w.heap.size + 1 + 1 + 1 + 1 + 1, 0, none⟩), .pointer (some ⟨w.heap.size + 1 + 1 + 1 + 1, 0, none⟩)]] 111)
  b : Below w.heap.size w W
  l : s.1.length = N
section
variable {w W W' : World} {v : Value} {N : Nat} {s : DfS}
theorem DsV.below (h : DsV w v N s W) (hb : Below W.heap.size W W') : DsV w v N s W' := ⟨(hb.block _ (lt_16 h.bl)).trans h.bl, (hb.block _ (lt_16 h.gm)).trans h.gm, (hb.block _ (lt_16 h.bm)).trans h.bm, own_b13 hb h.go, (hb.block _ (lt_16 h.bo)).trans h.bo, (hb.block _ (lt_16 h.bd)).trans h.bd, keepb hb h.b, h.l⟩
theorem DsV.kept {row : Option Nat} (h : DsV w v N s W) (hg : W.grownBy W' row) (hr : ∀ r, row = some r → w.heap.size ≤ r ∧ ∃ o : Obj, W.heap[r]? = some o ∧ o.isCells = false) : DsV w v N s W' :=
  ⟨blk_16 hg (fun r e => (hr r e).2) h.bl, blk_16 hg (fun r e => (hr r e).2) h.gm, blk_16 hg (fun r e => (hr r e).2) h.bm, own_16 hg (fun r e => (hr r e).2) h.go, blk_16 hg (fun r e => (hr r e).2) h.bo, blk_16 hg (fun r e => (hr r e).2) h.bd, h.b.grown hg h.b.size (fun r e => (hr r e).1), h.l⟩
theorem DsV.met (h : DsV w v N s W) (k : Nat) : DsV w v N (s.1.set k true, s.2) (W.setCell ⟨w.heap.size + 1, k, none⟩ (.bool true)) := by
  refine ⟨(far_16 (by omega)).trans h.bl, ?_, (far_16 (by omega)).trans h.bm, own_far16 h.go _ (fun e => by have := Option.some.inj (show some (w.heap.size + 1 + 1 + 1) = some (w.heap.size + 1) from e); omega), (far_16 (by omega)).trans h.bo, (far_16 (by omega)).trans h.bd, h.b.setCell (p := ⟨w.heap.size + 1, k, none⟩) (Nat.le_succ _) _, by simp [h.l]⟩
  rw [set_16 h.gm, map_set16]
theorem DsV.cell (h : DsV w v N s W) {k : Nat} (hk : k < N) : W.cell? ⟨w.heap.size + 1, k, none⟩ = some (.bool (s.1.getD k false)) := by
  refine at_16 h.gm k _ ?_
  rw [List.getElem?_toArray, List.getElem?_map, List.getElem?_eq_getElem (by rw [h.l]; exact hk), List.getD_eq_getElem?_getD, List.getElem?_eq_getElem (by rw [h.l]; exact hk)]
  rfl
theorem DsV.app (h : DsV w v N s W) {x : Int} (ho : W'.ownsRow w.heap.size 3 1 (.slice (some ⟨w.heap.size + 1 + 1 + 1, 0, none⟩) (s.2.length + 1) N) (s.2.length + 1) (s.2.map cI ++ [cI x])) (hg : W.grownBy W' (some (w.heap.size + 1 + 1 + 1))) : DsV w v N (s.1, s.2 ++ [x]) (W'.setCell ⟨w.heap.size + 1 + 1 + 1 + 1, 0, none⟩ (.slice (some ⟨w.heap.size + 1 + 1 + 1, 0, none⟩) (s.2.length + 1) N)) := by
  have kp : ∀ {z : Nat} {o : Obj}, W.heap[z]? = some o → z ≠ w.heap.size + 1 + 1 + 1 → W'.heap[z]? = some o := fun h1 h2 => (hg.block _ (lt_16 h1) (fun e => by injection e with e; exact h2 e)).trans h1
  refine ⟨(far_16 (by omega)).trans (kp h.bl (by omega)), (far_16 (by omega)).trans (kp h.gm (by omega)), (far_16 (by omega)).trans (kp h.bm (by omega)), ?_, ?_, (far_16 (by omega)).trans (kp h.bd (by omega)), ?_, h.l⟩
  · refine own_far16 ?_ _ (fun e => by have := Option.some.inj (show some (w.heap.size + 1 + 1 + 1) = some (w.heap.size + 1 + 1 + 1 + 1) from e); omega)
    simp only [List.length_append, List.map_append, List.length_cons, List.length_nil, List.map_cons, List.map_nil]
    exact ho
  · rw [set_16 (kp h.bo (by omega))]
    simp
  · exact (h.b.grown hg h.b.size (fun r e => by injection e with e; omega)).setCell (p := ⟨w.heap.size + 1 + 1 + 1 + 1, 0, none⟩) (by show w.heap.size ≤ w.heap.size + 1 + 1 + 1 + 1; omega) _
end
set_option maxRecDepth 100000 in
set_option maxHeartbeats 16000000 in
theorem downS_any (v : Value) (L : List Nde) (w : World) (hv : RwD w v L) (ok : RevOk L) (hl : L.length ≤ 1000000000) (hr : ∀ d ∈ L, d.r.length ≤ 1000000000) : ∀ (f n : Nat) (s : DfS) (c : Nat) (W : World), n < L.length → s.1.getD n false = false → CntD L.length c s → n < f → DsV w v L.length s W →
    Calls Try.prog 67 (#[.int .i64 (n : Int)] ++ #[.pointer (some ⟨w.heap.size + 1 + 1, 0, none⟩), .pointer (some ⟨w.heap.size, 0, none⟩), .pointer (some ⟨w.heap.size + 1 + 1 + 1 + 1 + 1, 0, none⟩), .pointer (some ⟨w.heap.size + 1 + 1 + 1 + 1, 0, none⟩)]) W fun e W' => e = .returned (.tuple #[]) ∧ DsV w v L.length (dfs L f n s) W' ∧ KX (DfX w) W W' := by
  intro f
  induction f with
  | zero => intro n s c W hn _ _ hf; omega
  | succ f ih =>
  intro n s c W hn hs0 hcnt hf hD
  obtain ⟨i0, hi, hz0, hz1, hz2⟩ := info13 Try.infoN16
  obtain ⟨d, hd⟩ : ∃ d, L[n]? = some d := ⟨L[n], by simp [hn]⟩
  have hmem : d ∈ L := List.mem_of_getElem? hd
  have HDr : Hid (d.r.length ≤ 1000000000) := hr d hmem
  have HIH := hid13 ih
  have HE := hid13 (dfs_succ L f n s d hd)
  have HLd := hid13 (fun r (h1 : r ∈ d.r) (h2 : r.k = true) => ok.lead hd h1 h2)
  have HCn := hid13 (cnt_set16 hcnt hn hs0)
  obtain ⟨ao, lc, hvf, hlc, hrow⟩ := id hv
  obtain ⟨b, off, hao, hcell⟩ : ∃ b off, ao = some ⟨b, off, none⟩ ∧ ∀ j d, L[j]? = some d → ∃ vr, w.cell? ⟨b, off + j * 2, none⟩ = some (.int .i64 d.b) ∧ w.cell? ⟨b, off + j * 2 + 1, none⟩ = some vr ∧ RwN w vr d.r := by
    rcases hrow with h | h
    · rw [h] at hn; simp at hn
    · exact h
  obtain ⟨vr, -, x1, hR⟩ := hcell n d hd
  subst hao
  have hni : (n : Int) < (L.length : Int) := by omega
  have HN : Hid (n < L.length ∧ n < f + 1 ∧ L.length ≤ 1000000000) := ⟨hn, hf, hl⟩
  obtain ⟨vo, vc, hvr, hvc, hvr2⟩ := id hR
  have HR := hid13 hR
  have HZ : Hid (d.r ≠ [] → ∀ ad, vo = some ad → ad.block < w.heap.size) := hid13 (fun hne ad e => by
    rcases hvr2 with h | ⟨b2, o2, e2, h2⟩
    · exact absurd h hne
    · rw [e2] at e
      cases e
      obtain ⟨r, t, hrt⟩ := List.exists_cons_of_ne_nil hne
      exact cell_in (h2 0 r (by rw [hrt]; rfl)).1)
  have m0 := at_16 hD.bm 0 _ rfl
  have g0 := hD.cell hn
  have g0f := fr_16 (j := n) hD.gm
  have D1 := hD.met n
  have X1 := (KX.refl (DfX w) W).set (w.heap.size + 1) n (.bool true) (.inl (.inl rfl))
  have l0 := at_16 D1.bl 0 _ rfl
  have x1' := keepc D1.b x1
  obtain ⟨W1, hW1⟩ : ∃ W1, W1 = W.setCell ⟨w.heap.size + 1, n, none⟩ (.bool true) := ⟨_, rfl⟩
  rw [← hW1] at D1 X1
  have HD1 := hid13 D1
  have HX1 := hid13 X1
  have hvv : v = .slice (some ⟨b, off, none⟩) L.length lc := hvf
  rw [hvv] at l0
  rw [hvr] at x1'
  have KK := fun w => back_any vo d.r.length vc w
  clear hcell hrow hR hvr2 D1 X1 hmem ih hs0 hcnt hf hr x1 hvf hv
  refine (callsIn_wide (n := 9)).1 ?_
  refine callsIn_of_wp_marks Try.func67 rfl trivial ?_ rfl
  simp only [Try.ntmps67, List.size_toArray, List.length_cons, List.length_nil, Nat.reduceAdd, Nat.reduceSub, Array.replicate_succ, Array.replicate_zero, List.push_toArray, List.append_toArray, List.nil_append, List.cons_append]
  refine wpIn_wide.2 ?_
  go_wp2_with fail
  rw [← hW1]
  refine (KK _).mono ?_
  rintro e W2 ⟨rfl, hW2⟩
  have HQ : Hid (Below W1.heap.size W1 W2) := by show Below _ _ _; rw [hW2]; exact bl1 _ _
  have hA2 : W2.cell? ⟨W1.heap.size, 0, none⟩ = some (.slice vo d.r.length vc) := by rw [hW2]; simp [go_sem]
  have HSz : Hid (W2.heap.size = W1.heap.size + 1) := by show _ = _; rw [hW2]; simp
  have HA2 := hid13 hA2
  have HS1 : Hid (w.heap.size + 5 < W1.heap.size) := by have := lt_16 HD1.out.bd; show _ < _; omega
  clear hW2 hA2 KK l0 x1' m0 g0 g0f hW1
  go_wp2_with fail
  obtain ⟨S1, hS1⟩ : ∃ S1 : DfS, S1 = (s.1.set n true, s.2) := ⟨_, rfl⟩
  rw [← hS1] at HD1 HE HCn
  have HD2 := hid13 (HD1.out.below HQ.out)
  refine (wpIn_wide (n := 9)).1 ?_
  refine rangeX 9 (by decide) (gf := 84) (lb := #[.pointer (some ⟨W1.heap.size, 0, none⟩)]) rfl (enters_of Try.func84 (by kernel_rfl) rfl)
    (back1_any (9 - 1) (fun z => z < w.heap.size ∨ z = W1.heap.size) W1.heap.size vo vc d.r HDr.out 0 W2 ⟨HA2.out, .inr rfl, by have := HR.out.below (keepb HQ.out HD1.out.b); rw [hvr] at this; exact this, fun hne ad e => .inl (HZ.out hne ad e)⟩) (Nat.zero_le _) (fun h k => h.trans k) (fun V o o' h1 h2 => kz_put (by have := HSz.out; have := HS1.out; rintro (q | q) <;> omega) V o o' h1 h2) (Below.refl _ _) (fun _ => rfl)
    (fun pre V => (DsV w v L.length ((pre.map (fun x : Int × Rn => x.2)).foldl (stpR (dfs L f)) S1) V ∧ KX (DfX w) W2 V) ∧ CntD L.length (c + 1) ((pre.map (fun x : Int × Rn => x.2)).foldl (stpR (dfs L f)) S1))
    (fun c pre V => False)
    (fun s X Y row hs hg hr => ⟨⟨hs.1.1.kept hg (fun r e => ⟨by have := (hr r e).1; have := HSz.out; have := HS1.out; omega, (hr r e).2⟩), KX.own (β := Unit) (B := W2.heap.size) (Nat.le_refl _) () X Y row hs.1.2 hg hr⟩, hs.2⟩)
    (fun c s X Y row hs hg hr => hs)
    ⟨⟨HD2.out, KX.refl _ _⟩, HCn.out⟩
    (fun x a V => ∃ Bx, RnAt V Bx 0 x.2 ∧ W2.heap.size ≤ Bx ∧ a.tmps.size = 37 ∧ a.tmps.getD 1 undef = .pointer (some ⟨w.heap.size + 1 + 1, 0, none⟩) ∧ a.tmps.getD 3 undef = .pointer (some ⟨w.heap.size + 1 + 1 + 1 + 1 + 1, 0, none⟩) ∧ a.tmps.getD 7 undef = .pointer (some ⟨Bx, 0, none⟩) ∧ a.defers = [])
    (fun x a' s A B row hs hg hr => by
      obtain ⟨Bx, ⟨c0, c1, c2, c3⟩, h3⟩ := hs
      exact ⟨Bx, ⟨cell_16 hg (fun r e => (hr r e).2) c0, cell_16 hg (fun r e => (hr r e).2) c1, cell_16 hg (fun r e => (hr r e).2) c2, cell_16 hg (fun r e => (hr r e).2) c3⟩, h3⟩)
    ?assign ?body ?done ?stop
  case assign =>
    rintro lo pre x V K ⟨⟨hU, hX⟩, hC⟩ hK
    obtain ⟨xi, r⟩ := x
    have bq := bl1 V (.cells #[.int .u64 (hI r.f), .int .u64 (lI r.f), .bool r.k, .int .i64 r.n] 54)
    have HKK := hid13 (fun a' h => hK a' _ (kf_below bq) (kz_below bq) ⟨⟨hU.below bq, hX.below bq⟩, hC⟩ ⟨V.heap.size, rnat_new V r _, hX.1, h⟩)
    clear hK bq hU hX hC
    unfold encB rnV
    simp only [List.zip_toArray, List.zip_cons_cons, List.zip_nil_left, List.zip_nil_right, List.foldl_toArray, List.foldl_cons, List.foldl_nil, List.setIfInBounds_toArray, List.set_cons_zero, List.set_cons_succ, Array.zip]
    gi_wp2
    refine HKK.out _ ?_
    exact ⟨rfl, rfl, rfl, rfl, rfl⟩
  case body =>
    rintro lo pre ⟨xi, r⟩ ⟨tm, df⟩ V hlo - ⟨⟨hU, hX⟩, hC⟩ ⟨Bx, hrn, hBx, hs, h1, h3, h7, hdf⟩ hsp
    dsimp only at hs h1 h3 h7 hdf hrn
    obtain ⟨u1, hu, htm⟩ := arr37b tm hs
    rw [← hu] at h1 h3 h7
    rw [htm, hdf, h1, h3, h7]
    clear hu htm hs hdf h1 h3 h7 tm df
    have hrm : r ∈ d.r := by
      have : (xi, r) ∈ (plcL d.r).reverse := hsp.mem (by simp)
      have h2 : r ∈ ((plcL d.r).map (·.2)) := List.mem_map.mpr ⟨(xi, r), List.mem_reverse.mp this, rfl⟩
      rwa [plc_snd] at h2
    have HF : Hid (((pre ++ [(xi, r)]).map (fun x : Int × Rn => x.2)).foldl (stpR (dfs L f)) S1 = stpR (dfs L f) ((pre.map (fun x : Int × Rn => x.2)).foldl (stpR (dfs L f)) S1) r) := by show _ = _; rw [List.map_append, List.foldl_append]; rfl
    generalize (pre.map (fun x : Int × Rn => x.2)).foldl (stpR (dfs L f)) S1 = S at *
    obtain ⟨r0, r1, r2, r3⟩ := hrn
    have HU := hid13 hU
    have HX := hid13 hX
    have HCS := hid13 hC
    have HV : Hid (w.heap.size + 6 ≤ W2.heap.size ∧ W2.heap.size ≤ lo) := ⟨by have := HSz.out; have := HS1.out; omega, hlo⟩
    clear hsp
    cases hk : r.k with
    | false =>
      rw [hk] at r2
      have HG : Hid (stpR (dfs L f) S r = S) := by show _ = _; unfold stpR; rw [hk]; rfl
      clear hk hU hX hC
      gi_wp2
      exact ⟨KeepsFrom.refl _ _, KZ.refl _ _, by dsimp only; rw [HF.out, HG.out]; exact ⟨⟨HU.out, HX.out⟩, HCS.out⟩⟩
    | true =>
      rw [hk] at r2
      obtain ⟨k1, k2, k3⟩ := HLd.out r hrm hk
      obtain ⟨k, hkn⟩ : ∃ k : Nat, r.n = (k : Int) := ⟨r.n.toNat, k3⟩
      rw [hkn] at r3 k1 k2
      rw [Int.toNat_natCast] at k1 k2
      have hki : (k : Int) < (L.length : Int) := by omega
      have m0 := at_16 hU.bm 0 _ rfl
      have g0 := hU.cell k2
      have q0 := at_16 hU.bd 0 _ rfl
      cases ht : S.1.getD k false with
      | true =>
        rw [ht] at g0
        have HG : Hid (stpR (dfs L f) S r = S) := by show _ = _; unfold stpR; rw [hk, hkn, Int.toNat_natCast, ht]; rfl
        clear hk hU hX hC ht k1 k3
        gi_wp2
        exact ⟨KeepsFrom.refl _ _, KZ.refl _ _, by dsimp only; rw [HF.out, HG.out]; exact ⟨⟨HU.out, HX.out⟩, HCS.out⟩⟩
      | false =>
        rw [ht] at g0
        have HG : Hid (stpR (dfs L f) S r = dfs L f k S) := by show _ = _; unfold stpR; rw [hk, hkn, Int.toNat_natCast, ht]; rfl
        have KD := HIH.out k S (c + 1) V k2 ht HCS.out (by have := HN.out; omega) HU.out
        have HC2 := hid13 (dfs_cntS ok f k S (c + 1) k2 ht HCS.out (by have := HN.out; omega))
        simp only [List.append_toArray, List.cons_append, List.nil_append] at KD
        clear hk hU hX hC ht k1 k3
        gi_wp2_with fail
        refine ⟨trivial, (CallsIn.inRound lo (callsIn_wide.2 KD)).mono ?_⟩
        rintro e V2 ⟨rfl, hD2, hX2⟩
        have HD3 := hid13 hD2
        have HX3 := hid13 hX2
        clear KD hD2 hX2 m0 g0 q0 r0 r1 r2 r3
        gi_wp2
        exact ⟨HX3.out.keeps (fun z hz => by have := HV.out; unfold DfX at hz; omega), HX3.out.kz (fun z hz q => by have := HS1.out; unfold DfX at q; rcases hz with z1 | z1 <;> omega), by dsimp only; rw [HF.out, HG.out]; exact ⟨⟨HD3.out, HX.out.trans HX3.out⟩, HC2.out⟩⟩
  case done =>
    rintro D ys V hDm rfl ⟨⟨hU, hX⟩, hC⟩ hK
    rw [List.map_reverse, plc_snd] at hU hC
    have HE2 := hid13 HE.out
    generalize d.r.reverse.foldl (stpR (dfs L f)) S1 = S at *
    have HX2 := hid13 hX
    have HCc : Hid (S.2.length + 1 ≤ L.length) := hid13 (by
      have h1 := hC.2
      have h2 := hC.1
      have h3 : S.1.count true ≤ S.1.length := List.count_le_length
      omega)
    have HU := hid13 hU
    have o0 := at_16 hU.bo 0 _ rfl
    have HO := hid13 hU.go
    have q8 := bl1 V (.cells #[.int .i64 (n : Int)] 3)
    have HU8 := hid13 (hU.below q8)
    have HX8 := hid13 (hX.below q8)
    have HK8 := hid13 ((q8.block D (lt_16 hK)).trans hK)
    have HDn : Hid (W2.heap.size ≤ D ∧ D < V.heap.size) := ⟨hDm, lt_16 hK⟩
    clear hU hX hC hK q8
    refine wl_nil16 (P := Try.prog) (ops := #[]) ?_
    go_wp2_with (at_builtin; apply stopHere9)
    refine (show wpList _ _ _ _ _ _ from ?_)
    refine wpList_append_fits _ rfl _ _ 61 rfl w.heap.size 3 i0 1 Try.underlying61 hi hz1 (w.heap.size + 1 + 1 + 1) S.2.length L.length (S.2.map cI) rfl HU8.out.go ⟨V.heap.size, 0, none⟩ 1 1 [cI (n : Int)] rfl rfl ?_ ?_ HCc.out ?_
    · intro j u hj
      cases j with
      | zero => simp at hj; subst hj; simp [go_sem, cI]
      | succ j => simp at hj
    · intro u hu
      simp at hu
      subst hu
      rfl
    intro w9 hO9 hg9
    have A9 := HU8.out.app hO9 hg9
    have X9 : KX (DfX w) W2 (w9.setCell ⟨w.heap.size + 1 + 1 + 1 + 1, 0, none⟩ (.slice (some ⟨w.heap.size + 1 + 1 + 1, 0, none⟩) (S.2.length + 1) L.length)) := by
      refine KX.set ?_ _ 0 _ (.inl (.inr (.inr rfl)))
      refine ⟨Nat.le_trans HX8.out.1 hg9.size, fun z h1 h2 => ?_⟩
      refine (hg9.block z (Nat.lt_of_lt_of_le h1 HX8.out.1) (fun e => ?_)).trans (HX8.out.2 z h1 h2)
      injection e with e
      exact h2 (.inr (.inl e))
    have kD : w9.heap[D]? = some (.deferred (some [])) := (hg9.block D (lt_16 HK8.out) (fun e => by injection e with e; have := HDn.out; have := HSz.out; have := HS1.out; omega)).trans HK8.out
    have b9 : w9.cell? ⟨w.heap.size + 1 + 1 + 1 + 1, 0, none⟩ = some (.slice (some ⟨w.heap.size + 1 + 1 + 1, 0, none⟩) S.2.length L.length) := at_16 ((hg9.block _ (lt_16 HU8.out.bo) (fun e => by injection e with e; omega)).trans HU8.out.bo) 0 _ rfl
    have b9f : w9.frozen? ⟨w.heap.size + 1 + 1 + 1 + 1, 0, none⟩ = false := fr_16 ((hg9.block _ (lt_16 HU8.out.bo) (fun e => by injection e with e; omega)).trans HU8.out.bo)
    have HA9 := hid13 A9
    have HX9 := hid13 X9
    have HK9 := hid13 kD
    clear A9 X9 kD hO9 hg9 HU8 HX8 HK8 HO HU o0
    go_wp2
    refine ⟨by simp, .inl ⟨_, _, rfl, run_takeDeferred ((far_16 (by have := HDn.out; have := HSz.out; have := HS1.out; omega)).trans HK9.out), ?_⟩⟩
    have hg := grownBy_putObj' (w9.setCell ⟨w.heap.size + 1 + 1 + 1 + 1, 0, none⟩ (.slice (some ⟨w.heap.size + 1 + 1 + 1, 0, none⟩) (S.2.length + 1) L.length)) D (.deferred none)
    have hk9 : (w9.setCell ⟨w.heap.size + 1 + 1 + 1 + 1, 0, none⟩ (.slice (some ⟨w.heap.size + 1 + 1 + 1, 0, none⟩) (S.2.length + 1) L.length)).heap[D]? = some (.deferred (some [])) := (far_16 (by have := HDn.out; have := HSz.out; have := HS1.out; omega)).trans HK9.out
    refine ⟨.tuple #[], by simp [results, Try.results67, go_sem], rfl, ?_, ?_⟩
    · rw [HE2.out]
      exact HA9.out.kept hg (fun r e => by cases e; exact ⟨by have := HDn.out; have := HSz.out; have := HS1.out; omega, _, hk9, rfl⟩)
    · have hx1 : KX (DfX w) W W2 := HX1.out.below HQ.out
      have hx2 := hx1.trans HX9.out
      refine ⟨Nat.le_trans hx2.1 hg.size, fun z h1 h2 => (hg.block z (Nat.lt_of_lt_of_le h1 hx2.1) (fun e => ?_)).trans (hx2.2 z h1 h2)⟩
      injection e with e
      have := HDn.out
      have := hx1.1
      omega
  case stop =>
    rintro D c pre V hD hpre h hK
    exact h.elim
set_option maxRecDepth 20000 in
set_option maxHeartbeats 8000000 in
theorem walkS_any (v : Value) (L : List Nde) (n0 : Nat) (hn0 : Hid (n0 = L.length - 1)) (w : World) (hv : RwD w v L) (ok : RevOk L) (h0 : 0 < L.length) (hl : L.length ≤ 1000000000) (hr : ∀ d ∈ L, d.r.length ≤ 1000000000) :
    Calls Try.prog 44 #[v, .int .i64 (n0 : Int)] w fun e w' => ∃ v', e = .returned v' ∧ w'.ownsRow w.heap.size 3 1 v' (ordS L).length ((ordS L).map cI) ∧ Below w.heap.size w w' := by
  obtain ⟨i0, hi, hz0, hz1, hz2⟩ := info13 Try.infoO16
  obtain ⟨j0, hj, hj0, hj1, hj2⟩ := info13 Try.infoN16
  obtain ⟨ao, c, hvf, -⟩ := id hv
  have HV := hid13 hv
  have hn0l : n0 < L.length := by have := hn0.out; omega
  have KD := fun W h => downS_any v L w hv ok hl hr L.length n0 (List.replicate L.length false, []) 0 W hn0l (by rw [List.getD_eq_getElem?_getD, List.getElem?_replicate_of_lt hn0l]; rfl) ⟨by simp, by simp [List.count_replicate]⟩ (by omega) h
  have hmf : ∀ (fn : Fn) (first cap : Array Value) (w : World), (Instr.makeFunc fn first cap).run Try.prog w = .ok (.func fn first cap) w := fun _ _ _ _ => rfl
  simp only [List.append_toArray, List.cons_append, List.nil_append] at KD
  subst hvf
  clear hv hr
  go_enter Try.func44, Try.ntmps44
  go_wp2_with (at_make; apply stopHere9)
  refine (show wpList _ _ _ _ _ _ from ?_)
  refine wpList_make16 _ rfl _ _ 76 rfl 4 i0 (.bool false) Try.underlying76 hi hz0 .i64 .i64 _ _ L.length L.length rfl rfl rfl rfl (Nat.le_refl _) (by rw [hz2]; omega) (by unfold maxLen; omega) ?_
  have eO : madeCells (Value.bool false).cells (L.length * i0.size) = ((List.replicate L.length false).map cBo).toArray := by rw [hz1, Nat.mul_one, List.map_replicate]; exact made_one16 _ _
  rw [eO]
  clear eO
  obtain ⟨O1, hO1⟩ : ∃ O : Obj, O = .cells ((List.replicate L.length false).map cBo).toArray 4 := ⟨_, rfl⟩
  rw [← hO1]
  have HO1 := hid13 hO1
  clear hO1
  go_wp2_with (at_make; apply stopHere9)
  refine (show wpList _ _ _ _ _ _ from ?_)
  refine wpList_make16 _ rfl _ _ 61 rfl 3 j0 (.int .i64 0) Try.underlying61 hj hj0 .i64 .i64 _ _ 0 L.length rfl rfl rfl rfl (Nat.zero_le _) (by rw [hj2]; omega) (by unfold maxLen; omega) ?_
  obtain ⟨O2, hO2⟩ : ∃ O : Obj, O = .cells (madeCells (Value.int IntKind.i64 0).cells (L.length * j0.size)) 3 := ⟨_, rfl⟩
  rw [← hO2]
  have D0 : DsV w (.slice ao L.length c) L.length (List.replicate L.length false, []) ((((((w.alloc (.cells #[.slice ao L.length c] 22)).alloc O1).alloc (.cells #[.slice (some ⟨w.heap.size + 1, 0, none⟩) L.length L.length] 76)).alloc O2).alloc (.cells #[.slice (some ⟨w.heap.size + 1 + 1 + 1, 0, none⟩) 0 L.length] 61)).alloc (.cells #[.func (.func 67) #[] #[.pointer (some ⟨w.heap.size + 1 + 1, 0, none⟩), .pointer (some ⟨w.heap.size, 0, none⟩), .pointer (some ⟨w.heap.size + 1 + 1 + 1 + 1 + 1, 0, none⟩), .pointer (some ⟨w.heap.size + 1 + 1 + 1 + 1, 0, none⟩)]] 111)) := by
    have e1 : (w.alloc (.cells #[.slice ao L.length c] 22)).heap.size = w.heap.size + 1 := by simp
    have n0 := new_16 w (.cells #[.slice ao L.length c] 22)
    have n1 := new_16 (w.alloc (.cells #[.slice ao L.length c] 22)) O1
    have n2 := new_16 ((w.alloc (.cells #[.slice ao L.length c] 22)).alloc O1) (.cells #[.slice (some ⟨w.heap.size + 1, 0, none⟩) L.length L.length] 76)
    have n3 := new_16 (((w.alloc (.cells #[.slice ao L.length c] 22)).alloc O1).alloc (.cells #[.slice (some ⟨w.heap.size + 1, 0, none⟩) L.length L.length] 76)) O2
    have n4 := new_16 ((((w.alloc (.cells #[.slice ao L.length c] 22)).alloc O1).alloc (.cells #[.slice (some ⟨w.heap.size + 1, 0, none⟩) L.length L.length] 76)).alloc O2) (.cells #[.slice (some ⟨w.heap.size + 1 + 1 + 1, 0, none⟩) 0 L.length] 61)
    have n5 := new_16 (((((w.alloc (.cells #[.slice ao L.length c] 22)).alloc O1).alloc (.cells #[.slice (some ⟨w.heap.size + 1, 0, none⟩) L.length L.length] 76)).alloc O2).alloc (.cells #[.slice (some ⟨w.heap.size + 1 + 1 + 1, 0, none⟩) 0 L.length] 61)) (.cells #[.func (.func 67) #[] #[.pointer (some ⟨w.heap.size + 1 + 1, 0, none⟩), .pointer (some ⟨w.heap.size, 0, none⟩), .pointer (some ⟨w.heap.size + 1 + 1 + 1 + 1 + 1, 0, none⟩), .pointer (some ⟨w.heap.size + 1 + 1 + 1 + 1, 0, none⟩)]] 111)
    simp only [World.size_alloc] at n1 n2 n3 n4 n5
    refine ⟨old_16 _ (old_16 _ (old_16 _ (old_16 _ (old_16 _ n0)))), ?_, old_16 _ (old_16 _ (old_16 _ n2)), ?_, old_16 _ n4, n5, ?_, by simp⟩
    · have := old_16 (.cells #[.func (.func 67) #[] #[.pointer (some ⟨w.heap.size + 1 + 1, 0, none⟩), .pointer (some ⟨w.heap.size, 0, none⟩), .pointer (some ⟨w.heap.size + 1 + 1 + 1 + 1 + 1, 0, none⟩), .pointer (some ⟨w.heap.size + 1 + 1 + 1 + 1, 0, none⟩)]] 111) (old_16 (.cells #[.slice (some ⟨w.heap.size + 1 + 1 + 1, 0, none⟩) 0 L.length] 61) (old_16 O2 (old_16 (.cells #[.slice (some ⟨w.heap.size + 1, 0, none⟩) L.length L.length] 76) n1)))
      rw [this, HO1.out]
    · have := old_16 (.cells #[.func (.func 67) #[] #[.pointer (some ⟨w.heap.size + 1 + 1, 0, none⟩), .pointer (some ⟨w.heap.size, 0, none⟩), .pointer (some ⟨w.heap.size + 1 + 1 + 1 + 1 + 1, 0, none⟩), .pointer (some ⟨w.heap.size + 1 + 1 + 1 + 1, 0, none⟩)]] 111) (old_16 (.cells #[.slice (some ⟨w.heap.size + 1 + 1 + 1, 0, none⟩) 0 L.length] 61) n3)
      refine ⟨rfl, .inr ⟨w.heap.size + 1 + 1 + 1, L.length, madeCells (Value.int IntKind.i64 0).cells (L.length * j0.size), rfl, by omega, ?_, Nat.zero_le _, by unfold maxLen; omega, ?_, rfl⟩⟩
      · rw [this, hO2]
      · rw [size_madeCells, hj1]
    · exact ((((((Below.refl _ _).alloc (Nat.le_refl _) _).alloc (by simp) _).alloc (by simp; omega) _).alloc (by simp; omega) _).alloc (by simp; omega) _).alloc (by simp; omega) _
  have HD0 := hid13 D0
  have KD1 := KD _ D0
  clear D0 HO1 hO2 KD
  go_wp2_with fail
  refine KD1.mono ?_
  rintro e W2 ⟨rfl, hD2, hX2⟩
  have o2 := at_16 hD2.bo 0 _ rfl
  have HD2 := hid13 hD2
  have HCn := hid13 (dfs_cntS ok L.length n0 (List.replicate L.length false, []) 0 hn0l (by rw [List.getD_eq_getElem?_getD, List.getElem?_replicate_of_lt hn0l]; rfl) ⟨by simp, by simp [List.count_replicate]⟩ (by omega))
  have HOr : Hid (ordS L = (dfs L L.length n0 (List.replicate L.length false, [])).2.reverse) := hid13 (by rw [hn0.out]; rfl)
  generalize dfs L L.length n0 (List.replicate L.length false, []) = S at *
  have hSl : S.2.length ≤ L.length := by
    have h1 := HCn.out.2
    have h2 := HCn.out.1
    have h3 : S.1.count true ≤ S.1.length := List.count_le_length
    omega
  have KR := rev_any w.heap.size (w.heap.size + 1 + 1 + 1) L.length S.2 W2 (by omega) hD2.go
  clear hD2 hX2 KD1 HD0 hSl
  go_wp2_with fail
  refine KR.mono ?_
  rintro e W3 ⟨rfl, hO3, hg3⟩
  have o3 : W3.cell? ⟨w.heap.size + 1 + 1 + 1 + 1, 0, none⟩ = some (.slice (some ⟨w.heap.size + 1 + 1 + 1, 0, none⟩) S.2.length L.length) := at_16 ((hg3.block _ (lt_16 HD2.out.bo) (fun e => by injection e with e; omega)).trans HD2.out.bo) 0 _ rfl
  have HO3 : Hid (W3.ownsRow w.heap.size 3 1 (.slice (some ⟨w.heap.size + 1 + 1 + 1, 0, none⟩) S.2.length L.length) (ordS L).length ((ordS L).map cI)) := by show World.ownsRow _ _ _ _ _ _ _; rw [HOr.out, List.length_reverse]; exact hO3
  have HB3 := hid13 (HD2.out.b.grown hg3 HD2.out.b.size (fun r e => by injection e with e; omega))
  clear KR hO3 hg3 o2 HCn
  go_wp2
  exact bodyPost_ret (v := .slice (some ⟨w.heap.size + 1 + 1 + 1, 0, none⟩) S.2.length L.length) (by simp [results, Try.results44, go_sem]) rfl ⟨_, rfl, HO3.out, HB3.out⟩
end Go.Proofs.Ytdpfdlkaickkiaa
namespace Go.Proofs.Ytdpfdlkaickkiaa
open Go.RowKit Go.Shelf
set_option linter.unusedSimpArgs false
set_option linter.unusedVariables false

def mkK (m : List Bool) (k : Int) : List Bool := m.set k.toNat true
def mkN (m : List Bool) (d : Nde) : List Bool := (kidL d.r).foldl mkK m
def mkL (L : List Nde) (i : Nat) : List Bool := (L.take i).foldl mkN (List.replicate L.length false)
theorem usK_fst (s : List Bool × Nat) (k : Int) : (usK s k).1 = mkK s.1 k := by
  unfold usK mkK
  split
  · rename_i h
    apply List.ext_getElem?
    intro i
    rw [List.getElem?_set]
    split
    · rename_i e
      subst e
      rw [List.getD_eq_getElem?_getD] at h
      cases hx : s.1[k.toNat]? with
      | none => rw [hx] at h; simp at h
      | some x =>
        rw [hx] at h
        simp at h
        subst h
        have := (List.getElem?_eq_some_iff.mp hx).1
        simp [this]
    · rfl
  · rfl
theorem usF_fst : ∀ (ks : List Int) (s : List Bool × Nat), (ks.foldl usK s).1 = ks.foldl mkK s.1
  | [], s => rfl
  | k :: ks, s => by
    show (ks.foldl usK (usK s k)).1 = ks.foldl mkK (mkK s.1 k)
    rw [usF_fst ks, usK_fst]
theorem usL_fst : ∀ (L : List Nde) (s : List Bool × Nat), (L.foldl usN s).1 = L.foldl mkN s.1
  | [], s => rfl
  | d :: L, s => by
    show (L.foldl usN (usN s d)).1 = L.foldl mkN (mkN s.1 d)
    rw [usL_fst L]
    unfold usN mkN
    rw [usF_fst]
theorem mkK_set0 (m : List Bool) (k : Int) : mkK (m.set 0 true) k = (mkK m k).set 0 true := by
  unfold mkK
  by_cases h : k.toNat = 0
  · rw [h, List.set_set]
  · exact List.set_comm _ _ (fun e => h e.symm)
theorem mkF_set0 : ∀ (ks : List Int) (m : List Bool), ks.foldl mkK (m.set 0 true) = (ks.foldl mkK m).set 0 true
  | [], m => rfl
  | k :: ks, m => by
    show ks.foldl mkK (mkK (m.set 0 true) k) = (ks.foldl mkK (mkK m k)).set 0 true
    rw [mkK_set0, mkF_set0 ks]
theorem mkL_set0 : ∀ (L : List Nde) (m : List Bool), L.foldl mkN (m.set 0 true) = (L.foldl mkN m).set 0 true
  | [], m => rfl
  | d :: L, m => by
    show L.foldl mkN (mkN (m.set 0 true) d) = (L.foldl mkN (mkN m d)).set 0 true
    have : mkN (m.set 0 true) d = (mkN m d).set 0 true := mkF_set0 _ _
    rw [this, mkL_set0 L]
theorem mkF_len : ∀ (ks : List Int) (m : List Bool), (ks.foldl mkK m).length = m.length
  | [], m => rfl
  | k :: ks, m => by
    show (ks.foldl mkK (mkK m k)).length = _
    rw [mkF_len ks]; unfold mkK; simp
theorem mkL_len : ∀ (L : List Nde) (m : List Bool), (L.foldl mkN m).length = m.length
  | [], m => rfl
  | d :: L, m => by
    show (L.foldl mkN (mkN m d)).length = _
    rw [mkL_len L]; exact mkF_len _ _
theorem mkL_size (L : List Nde) (i : Nat) : (mkL L i).length = L.length := by unfold mkL; rw [mkL_len]; simp
theorem mkL_step (L : List Nde) (i : Nat) (d : Nde) (h : L[i]? = some d) : mkL L (i + 1) = (kidL d.r).foldl mkK (mkL L i) := by
  unfold mkL
  rw [List.take_add_one, h, List.foldl_append]; rfl
theorem used_iff (L : List Nde) (h0 : 0 < L.length) (hk : ∀ d ∈ L, ∀ x ∈ kidL d.r, 0 ≤ x ∧ x < (L.length : Int)) : usedB L = true ↔ ∀ i, 1 ≤ i → i < L.length → (mkL L L.length).getD i false = true := by
  have h1 := us0_so L.length h0
  have h2 := usL_so L (us0 L.length) h1.1 (fun d hd x hx => by have := hk d hd x hx; rw [h1.2]; omega)
  have h3 : (L.foldl usN (us0 L.length)).1 = (mkL L L.length).set 0 true := by
    rw [usL_fst]
    unfold us0 mkL
    rw [List.take_length, mkL_set0]
  have h4 : (L.foldl usN (us0 L.length)).2 = ((mkL L L.length).set 0 true).count true := by rw [← h3]; exact h2.1
  have h5 := mkL_size L L.length
  unfold usedB
  rw [h4]
  generalize mkL L L.length = M at *
  constructor
  · intro h i hi1 hi2
    have hc : (M.set 0 true).count true = (M.set 0 true).length := by rw [List.length_set, h5]; simpa using h
    have hm : true = (M.set 0 true)[i]'(by simp; omega) := List.count_eq_length.mp hc _ (List.getElem_mem _)
    rw [List.getElem_set_ne (by omega)] at hm
    rw [List.getD_eq_getElem?_getD, List.getElem?_eq_getElem (by omega)]
    exact hm.symm
  · intro h
    have hc : (M.set 0 true).count true = (M.set 0 true).length := by
      rw [List.count_eq_length]
      intro b hb
      obtain ⟨i, hi, rfl⟩ := List.getElem_of_mem hb
      by_cases h0' : i = 0
      · subst h0'; simp
      · rw [List.getElem_set_ne (by omega)]
        have := h i (by omega) (by rw [← h5]; simpa using hi)
        rw [List.getD_eq_getElem?_getD, List.getElem?_eq_getElem (by simpa using hi)] at this
        exact this.symm
    rw [hc, List.length_set, h5]
    simp
theorem deep_zero {F : Int} (hF : 0 ≤ F) {r : List Rn} (hk : kidL r = []) : deepR F [⟨0, r⟩] = (0, 0) := by
  have h := dp_drop F [⟨0, r⟩] 0 ⟨0, r⟩ rfl (List.replicate 1 (0, 0)) 0
  unfold deepR
  show dpG F [⟨0, r⟩] 0 (List.replicate 1 (0, 0)) 0 = _
  refine h.trans ?_
  rw [if_neg (by show ¬ F < 0 + 0; omega)]
  rfl
theorem NdsOk.one {L : List Nde} (ok : NdsOk L) : (∀ d ∈ L, 1 ≤ d.b) ∨ ∃ r, L = [⟨0, r⟩] ∧ kidL r = [] := by
  by_cases h : ∀ d ∈ L, 1 ≤ d.b
  · exact .inl h
  · right
    have : ∃ d ∈ L, ¬ 1 ≤ d.b := by
      apply Classical.byContradiction
      intro hn
      exact h (fun d hd => Classical.byContradiction fun hc => hn ⟨d, hd, hc⟩)
    obtain ⟨d, hd, hb⟩ := this
    obtain ⟨k, hk⟩ := List.getElem?_of_mem hd
    have o := ok.2 k d hk
    have hb0 : d.b = 0 := by have := o.b0; omega
    have hl := o.bz hb0
    have h0 := ok.1
    match L, hl, h0, hk with
    | [e], hl, h0, hk =>
      have hk0 : k = 0 := by have := (List.getElem?_eq_some_iff.mp hk).1; simpa using this
      subst hk0
      simp at hk
      subst hk
      obtain ⟨eb, er⟩ := e
      dsimp only at hb0
      subst hb0
      refine ⟨er, rfl, ?_⟩
      cases hx : kidL er with
      | nil => rfl
      | cons x t =>
        have hm : x ∈ kidL er := by rw [hx]; exact List.mem_cons_self ..
        obtain ⟨r, h1, h2, h3⟩ := mem_kidL hm
        have := o.kid r h1 h2
        simp at this
        omega
    | a :: b :: t, hl, h0, hk => simp at hl; omega
def fsV (P : Prs) : List Value := P.map fun p => .int .i64 p.1
def snV (P : Prs) : List Value := P.map fun p => .int .i64 p.2
theorem up_fs (b m : Int) (P : Prs) (k : Nat) : fsV (upR b m P (k : Int)) = (fsV P).set k (.int .i64 (max (P.getD k (0, 0)).1 b)) := by
  unfold fsV upR; rw [List.map_set, Int.toNat_natCast]
theorem up_sn (b m : Int) (P : Prs) (k : Nat) : snV (upR b m P (k : Int)) = (snV P).set k (.int .i64 (max (P.getD k (0, 0)).2 m)) := by
  unfold snV upR; rw [List.map_set, Int.toNat_natCast]
theorem fs_at {P : Prs} {k : Nat} (h : k < P.length) : (fsV P).toArray[k]? = some (.int .i64 (P.getD k (0, 0)).1) := by
  unfold fsV; rw [List.getElem?_toArray, List.getElem?_map, List.getElem?_eq_getElem h, List.getD_eq_getElem?_getD, List.getElem?_eq_getElem h]; rfl
theorem sn_at {P : Prs} {k : Nat} (h : k < P.length) : (snV P).toArray[k]? = some (.int .i64 (P.getD k (0, 0)).2) := by
  unfold snV; rw [List.getElem?_toArray, List.getElem?_map, List.getElem?_eq_getElem h, List.getD_eq_getElem?_getD, List.getElem?_eq_getElem h]; rfl
theorem fs_rep (n : Nat) : fsV (List.replicate n (0, 0)) = List.replicate n (.int .i64 0) := by unfold fsV; rw [List.map_replicate]
theorem sn_rep (n : Nat) : snV (List.replicate n (0, 0)) = List.replicate n (.int .i64 0) := by unfold snV; rw [List.map_replicate]
end Go.Proofs.Ytdpfdlkaickkiaa
