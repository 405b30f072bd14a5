/-
  Part 13 of the proof: 3 texts, one behind the other.
-/
import Derived.Test.YtdpmhpmnkollaaaPart12
namespace Go.Proofs.Ytdpmhpmnkollaaa
open Go.RowKit Go.Shelf
set_option linter.unusedSimpArgs false
set_option linter.unusedVariables false
attribute [local go_sem] Oper.semAt_some

structure DfV (w : World) (v : Value) (N : Nat) (s : DfS) (W : World) : Prop where
  bl : W.heap[w.heap.size]? = some (.cells #[v] 22)
  gm : W.heap[w.heap.size + 1]? = some (.cells (s.1.map cBo).toArray 4)
  bm : W.heap[w.heap.size + 1 + 1]? = some (.cells #[.slice (some ⟨w.heap.size + 1, 0, none⟩) N N] 55)
  go : W.ownsRow w.heap.size 3 1 (.slice (some ⟨w.heap.size + 1 + 1 + 1, 0, none⟩) s.2.length N) s.2.length (s.2.map cI)
  bo : W.heap[w.heap.size + 1 + 1 + 1 + 1]? = some (.cells #[.slice (some ⟨w.heap.size + 1 + 1 + 1, 0, none⟩) s.2.length N] 37)
  bd : W.heap[w.heap.size + 1 + 1 + 1 + 1 + 1]? = some (.cells #[.func (.func 72) #[] #[.pointer (some ⟨w.heap.size + 1 + 1, 0, none⟩), .pointer (some ⟨w.heap.size, 0, none⟩), .pointer (some ⟨w.heap.size + 1 + 1 + 1 + 1 + 1, 0, none⟩), .pointer (some ⟨w.heap.size + 1 + 1 + 1 + 1, 0, none⟩)]] 141)
  b : Below w.heap.size w W
  l : s.1.length = N
def DfX (w : World) (z : Nat) : Prop := z = w.heap.size + 1 ∨ z = w.heap.size + 1 + 1 + 1 ∨ z = w.heap.size + 1 + 1 + 1 + 1
section
variable {w W W' : World} {v : Value} {N : Nat} {s : DfS}
theorem DfV.below (h : DfV w v N s W) (hb : Below W.heap.size W W') : DfV w v N s W' := ⟨(hb.block _ (lt_16 h.bl)).trans h.bl, (hb.block _ (lt_16 h.gm)).trans h.gm, (hb.block _ (lt_16 h.bm)).trans h.bm, own_b13 hb h.go, (hb.block _ (lt_16 h.bo)).trans h.bo, (hb.block _ (lt_16 h.bd)).trans h.bd, keepb hb h.b, h.l⟩
theorem own_16 {W W' : World} {row : Option Nat} (hg : W.grownBy W' row) (hr : ∀ r, row = some r → ∃ o : Obj, W.heap[r]? = some o ∧ o.isCells = false) {base e size n : Nat} {v : Value} {xs : List Value} (h : W.ownsRow base e size v n xs) : W'.ownsRow base e size v n xs := by
  refine h.kept hg ?_
  cases hv : v.ownBlock with
  | none => exact .inl rfl
  | some z =>
    refine .inr fun e => ?_
    obtain ⟨o, h1, h2⟩ := hr z e.symm
    obtain ⟨cs, T, fr, h3⟩ := own_cells14 h hv
    rw [h3] at h1
    cases h1
    cases h2
theorem DfV.kept {row : Option Nat} (h : DfV w v N s W) (hg : W.grownBy W' row) (hr : ∀ r, row = some r → w.heap.size ≤ r ∧ ∃ o : Obj, W.heap[r]? = some o ∧ o.isCells = false) : DfV w v N s W' :=
  ⟨blk_16 hg (fun r e => (hr r e).2) h.bl, blk_16 hg (fun r e => (hr r e).2) h.gm, blk_16 hg (fun r e => (hr r e).2) h.bm, own_16 hg (fun r e => (hr r e).2) h.go, blk_16 hg (fun r e => (hr r e).2) h.bo, blk_16 hg (fun r e => (hr r e).2) h.bd, h.b.grown hg h.b.size (fun r e => (hr r e).1), h.l⟩
theorem own_far16 {W : World} {base e size n : Nat} {v : Value} {xs : List Value} (h : W.ownsRow base e size v n xs) {B o : Nat} (u : Value) (hv : v.ownBlock ≠ some B) : (W.setCell ⟨B, o, none⟩ u).ownsRow base e size v n xs := by
  refine ⟨h.1, ?_⟩
  rcases h.2 with h1 | ⟨g, cap, cur, e, h1, h2, h3⟩
  · exact .inl h1
  · refine .inr ⟨g, cap, cur, e, h1, (far_16 ?_).trans h2, h3⟩
    rintro rfl
    exact hv (by rw [e]; rfl)
theorem DfV.met (h : DfV w v N s W) (k : Nat) : DfV w v N (s.1.set k true, s.2) (W.setCell ⟨w.heap.size + 1, k, none⟩ (.bool true)) := by
  refine ⟨(far_16 (by omega)).trans h.bl, ?_, (far_16 (by omega)).trans h.bm, own_far16 h.go _ (fun e => by have := Option.some.inj (show some (w.heap.size + 1 + 1 + 1) = some (w.heap.size + 1) from e); omega), (far_16 (by omega)).trans h.bo, (far_16 (by omega)).trans h.bd, h.b.setCell (p := ⟨w.heap.size + 1, k, none⟩) (Nat.le_succ _) _, by simp [h.l]⟩
  rw [set_16 h.gm, map_set16]
theorem DfV.cell (h : DfV w v N s W) {k : Nat} (hk : k < N) : W.cell? ⟨w.heap.size + 1, k, none⟩ = some (.bool (s.1.getD k false)) := by
  refine at_16 h.gm k _ ?_
  rw [List.getElem?_toArray, List.getElem?_map, List.getElem?_eq_getElem (by rw [h.l]; exact hk), List.getD_eq_getElem?_getD, List.getElem?_eq_getElem (by rw [h.l]; exact hk)]
  rfl
theorem DfV.app (h : DfV w v N s W) {x : Int} (ho : W'.ownsRow w.heap.size 3 1 (.slice (some ⟨w.heap.size + 1 + 1 + 1, 0, none⟩) (s.2.length + 1) N) (s.2.length + 1) (s.2.map cI ++ [cI x])) (hg : W.grownBy W' (some (w.heap.size + 1 + 1 + 1))) : DfV w v N (s.1, s.2 ++ [x]) (W'.setCell ⟨w.heap.size + 1 + 1 + 1 + 1, 0, none⟩ (.slice (some ⟨w.heap.size + 1 + 1 + 1, 0, none⟩) (s.2.length + 1) N)) := by
  have kp : ∀ {z : Nat} {o : Obj}, W.heap[z]? = some o → z ≠ w.heap.size + 1 + 1 + 1 → W'.heap[z]? = some o := fun h1 h2 => (hg.block _ (lt_16 h1) (fun e => by injection e with e; exact h2 e)).trans h1
  refine ⟨(far_16 (by omega)).trans (kp h.bl (by omega)), (far_16 (by omega)).trans (kp h.gm (by omega)), (far_16 (by omega)).trans (kp h.bm (by omega)), ?_, ?_, (far_16 (by omega)).trans (kp h.bd (by omega)), ?_, h.l⟩
  · refine own_far16 ?_ _ (fun e => by have := Option.some.inj (show some (w.heap.size + 1 + 1 + 1) = some (w.heap.size + 1 + 1 + 1 + 1) from e); omega)
    simp only [List.length_append, List.map_append, List.length_cons, List.length_nil, List.map_cons, List.map_nil]
    exact ho
  · rw [set_16 (kp h.bo (by omega))]
    simp
  · exact (h.b.grown hg h.b.size (fun r e => by injection e with e; omega)).setCell (p := ⟨w.heap.size + 1 + 1 + 1 + 1, 0, none⟩) (by show w.heap.size ≤ w.heap.size + 1 + 1 + 1 + 1; omega) _
end
theorem Try.infoN16 : (Try.prog.info? 3).map (fun i => (i.zero, i.size, i.bytes)) = some (some (.int .i64 0), 1, 8) := by kernel_rfl
theorem arr37b (t : Array Value) (h : t.size = 37) : ∃ u : Nat → Value, (∀ i, u i = t.getD i undef) ∧ t = #[u 0, u 1, u 2, u 3, u 4, u 5, u 6, u 7, u 8, u 9, u 10, u 11, u 12, u 13, u 14, u 15, u 16, u 17, u 18, u 19, u 20, u 21, u 22, u 23, u 24, u 25, u 26, u 27, u 28, u 29, u 30, u 31, u 32, u 33, u 34, u 35, u 36] := by
  refine ⟨fun i => t.getD i undef, fun _ => rfl, ?_⟩
  obtain ⟨l⟩ := t
  have h' : l.length = 37 := h
  have e : l = (List.range 37).map (fun i => (⟨l⟩ : Array Value).getD i undef) := by
    apply List.ext_getElem
    · simp [h']
    · intro i h1 h2
      simp [Array.getD, h1]
  have e2 : (List.range 37).map (fun i => (⟨l⟩ : Array Value).getD i undef) = [(⟨l⟩ : Array Value).getD 0 undef, (⟨l⟩ : Array Value).getD 1 undef, (⟨l⟩ : Array Value).getD 2 undef, (⟨l⟩ : Array Value).getD 3 undef, (⟨l⟩ : Array Value).getD 4 undef, (⟨l⟩ : Array Value).getD 5 undef, (⟨l⟩ : Array Value).getD 6 undef, (⟨l⟩ : Array Value).getD 7 undef, (⟨l⟩ : Array Value).getD 8 undef, (⟨l⟩ : Array Value).getD 9 undef, (⟨l⟩ : Array Value).getD 10 undef, (⟨l⟩ : Array Value).getD 11 undef, (⟨l⟩ : Array Value).getD 12 undef, (⟨l⟩ : Array Value).getD 13 undef, (⟨l⟩ : Array Value).getD 14 undef, (⟨l⟩ : Array Value).getD 15 undef, (⟨l⟩ : Array Value).getD 16 undef, (⟨l⟩ : Array Value).getD 17 undef, (⟨l⟩ : Array Value).getD 18 undef, (⟨l⟩ : Array Value).getD 19 undef, (⟨l⟩ : Array Value).getD 20 undef, (⟨l⟩ : Array Value).getD 21 undef, (⟨l⟩ : Array Value).getD 22 undef, (⟨l⟩ : Array Value).getD 23 undef, (⟨l⟩ : Array Value).getD 24 undef, (⟨l⟩ : Array Value).getD 25 undef, (⟨l⟩ : Array Value).getD 26 undef, (⟨l⟩ : Array Value).getD 27 undef, (⟨l⟩ : Array Value).getD 28 undef, (⟨l⟩ : Array Value).getD 29 undef, (⟨l⟩ : Array Value).getD 30 undef, (⟨l⟩ : Array Value).getD 31 undef, (⟨l⟩ : Array Value).getD 32 undef, (⟨l⟩ : Array Value).getD 33 undef, (⟨l⟩ : Array Value).getD 34 undef, (⟨l⟩ : Array Value).getD 35 undef, (⟨l⟩ : Array Value).getD 36 undef] := rfl
  rw [e2] at e
  exact congrArg _ e
set_option maxRecDepth 100000 in
set_option maxHeartbeats 16000000 in
theorem down_any (v : Value) (L : List Nde) (w : World) (hv : RwD w v L) (ok : NdsOk L) (hl : L.length ≤ 1000000000) (hr : ∀ d ∈ L, d.r.length ≤ 1000000000) : ∀ (f n : Nat) (s : DfS) (c : Nat) (W : World), n < L.length → s.1.getD n false = false → CntD L.length c s → L.length ≤ n + f → DfV w v L.length s W →
    Calls Try.prog 72 (#[.int .i64 (n : Int)] ++ #[.pointer (some ⟨w.heap.size + 1 + 1, 0, none⟩), .pointer (some ⟨w.heap.size, 0, none⟩), .pointer (some ⟨w.heap.size + 1 + 1 + 1 + 1 + 1, 0, none⟩), .pointer (some ⟨w.heap.size + 1 + 1 + 1 + 1, 0, none⟩)]) W fun e W' => e = .returned (.tuple #[]) ∧ DfV w v L.length (dfs L f n s) W' ∧ KX (DfX w) W W' := by
  intro f
  induction f with
  | zero => intro n s c W hn _ _ hf; omega
  | succ f ih =>
  intro n s c W hn hs0 hcnt hf hD
  obtain ⟨i0, hi, hz0, hz1, hz2⟩ := info13 Try.infoN16
  obtain ⟨d, hd⟩ : ∃ d, L[n]? = some d := ⟨L[n], by simp [hn]⟩
  have hmem : d ∈ L := List.mem_of_getElem? hd
  have HDr : Hid (d.r.length ≤ 1000000000) := hr d hmem
  have HIH := hid13 ih
  have HE := hid13 (dfs_succ L f n s d hd)
  have HLd := hid13 (fun r (h1 : r ∈ d.r) (h2 : r.k = true) => ok.lead hd h1 h2)
  have HCn := hid13 (cnt_set16 hcnt hn hs0)
  obtain ⟨ao, lc, hvf, hlc, hrow⟩ := id hv
  obtain ⟨b, off, hao, hcell⟩ : ∃ b off, ao = some ⟨b, off, none⟩ ∧ ∀ j d, L[j]? = some d → ∃ vr, w.cell? ⟨b, off + j * 2, none⟩ = some (.int .i64 d.b) ∧ w.cell? ⟨b, off + j * 2 + 1, none⟩ = some vr ∧ RwN w vr d.r := by
    rcases hrow with h | h
    · rw [h] at hn; simp at hn
    · exact h
  obtain ⟨vr, -, x1, hR⟩ := hcell n d hd
  subst hao
  have hni : (n : Int) < (L.length : Int) := by omega
  have HN : Hid (n < L.length ∧ L.length ≤ n + (f + 1) ∧ L.length ≤ 1000000000) := ⟨hn, hf, hl⟩
  obtain ⟨vo, vc, hvr, hvc, hvr2⟩ := id hR
  have HR := hid13 hR
  have HZ : Hid (d.r ≠ [] → ∀ ad, vo = some ad → ad.block < w.heap.size) := hid13 (fun hne ad e => by
    rcases hvr2 with h | ⟨b2, o2, e2, h2⟩
    · exact absurd h hne
    · rw [e2] at e
      cases e
      obtain ⟨r, t, hrt⟩ := List.exists_cons_of_ne_nil hne
      exact cell_in (h2 0 r (by rw [hrt]; rfl)).1)
  have m0 := at_16 hD.bm 0 _ rfl
  have g0 := hD.cell hn
  have g0f := fr_16 (j := n) hD.gm
  have D1 := hD.met n
  have X1 := (KX.refl (DfX w) W).set (w.heap.size + 1) n (.bool true) (.inl (.inl rfl))
  have l0 := at_16 D1.bl 0 _ rfl
  have x1' := keepc D1.b x1
  obtain ⟨W1, hW1⟩ : ∃ W1, W1 = W.setCell ⟨w.heap.size + 1, n, none⟩ (.bool true) := ⟨_, rfl⟩
  rw [← hW1] at D1 X1
  have HD1 := hid13 D1
  have HX1 := hid13 X1
  have hvv : v = .slice (some ⟨b, off, none⟩) L.length lc := hvf
  rw [hvv] at l0
  rw [hvr] at x1'
  have KK := fun w => back_any vo d.r.length vc w
  clear hcell hrow hR hvr2 D1 X1 hmem ih hs0 hcnt hf hr x1 hvf hv
  refine (callsIn_wide (n := 9)).1 ?_
  refine callsIn_of_wp_marks Try.func72 rfl trivial ?_ rfl
  simp only [Try.ntmps72, List.size_toArray, List.length_cons, List.length_nil, Nat.reduceAdd, Nat.reduceSub, Array.replicate_succ, Array.replicate_zero, List.push_toArray, List.append_toArray, List.nil_append, List.cons_append]
  refine wpIn_wide.2 ?_
  go_wp2_with fail
  rw [← hW1]
  refine (KK _).mono ?_
  rintro e W2 ⟨rfl, hW2⟩
  have HQ : Hid (Below W1.heap.size W1 W2) := by show Below _ _ _; rw [hW2]; exact bl1 _ _
  have hA2 : W2.cell? ⟨W1.heap.size, 0, none⟩ = some (.slice vo d.r.length vc) := by rw [hW2]; simp [go_sem]
  have HSz : Hid (W2.heap.size = W1.heap.size + 1) := by show _ = _; rw [hW2]; simp
  have HA2 := hid13 hA2
  have HS1 : Hid (w.heap.size + 5 < W1.heap.size) := by have := lt_16 HD1.out.bd; show _ < _; omega
  clear hW2 hA2 KK l0 x1' m0 g0 g0f hW1
  go_wp2_with fail
  obtain ⟨S1, hS1⟩ : ∃ S1 : DfS, S1 = (s.1.set n true, s.2) := ⟨_, rfl⟩
  rw [← hS1] at HD1 HE HCn
  have HD2 := hid13 (HD1.out.below HQ.out)
  refine (wpIn_wide (n := 9)).1 ?_
  refine rangeX 9 (by decide) (gf := 95) (lb := #[.pointer (some ⟨W1.heap.size, 0, none⟩)]) rfl (enters_of Try.func95 (by kernel_rfl) rfl)
    (back1_any (9 - 1) (fun z => z < w.heap.size ∨ z = W1.heap.size) W1.heap.size vo vc d.r HDr.out 0 W2 ⟨HA2.out, .inr rfl, by have := HR.out.below (keepb HQ.out HD1.out.b); rw [hvr] at this; exact this, fun hne ad e => .inl (HZ.out hne ad e)⟩) (Nat.zero_le _) (fun h k => h.trans k) (fun V o o' h1 h2 => kz_put (by have := HSz.out; have := HS1.out; rintro (q | q) <;> omega) V o o' h1 h2) (Below.refl _ _) (fun _ => rfl)
    (fun pre V => (DfV w v L.length ((pre.map (fun x : Int × Rn => x.2)).foldl (stpR (dfs L f)) S1) V ∧ KX (DfX w) W2 V) ∧ CntD L.length (c + 1) ((pre.map (fun x : Int × Rn => x.2)).foldl (stpR (dfs L f)) S1))
    (fun c pre V => False)
    (fun s X Y row hs hg hr => ⟨⟨hs.1.1.kept hg (fun r e => ⟨by have := (hr r e).1; have := HSz.out; have := HS1.out; omega, (hr r e).2⟩), KX.own (β := Unit) (B := W2.heap.size) (Nat.le_refl _) () X Y row hs.1.2 hg hr⟩, hs.2⟩)
    (fun c s X Y row hs hg hr => hs)
    ⟨⟨HD2.out, KX.refl _ _⟩, HCn.out⟩
    (fun x a V => ∃ Bx, RnAt V Bx 0 x.2 ∧ W2.heap.size ≤ Bx ∧ a.tmps.size = 37 ∧ a.tmps.getD 1 undef = .pointer (some ⟨w.heap.size + 1 + 1, 0, none⟩) ∧ a.tmps.getD 3 undef = .pointer (some ⟨w.heap.size + 1 + 1 + 1 + 1 + 1, 0, none⟩) ∧ a.tmps.getD 7 undef = .pointer (some ⟨Bx, 0, none⟩) ∧ a.defers = [])
    (fun x a' s A B row hs hg hr => by
      obtain ⟨Bx, ⟨c0, c1, c2, c3⟩, h3⟩ := hs
      exact ⟨Bx, ⟨cell_16 hg (fun r e => (hr r e).2) c0, cell_16 hg (fun r e => (hr r e).2) c1, cell_16 hg (fun r e => (hr r e).2) c2, cell_16 hg (fun r e => (hr r e).2) c3⟩, h3⟩)
    ?assign ?body ?done ?stop
  case assign =>
    rintro lo pre x V K ⟨⟨hU, hX⟩, hC⟩ hK
    obtain ⟨xi, r⟩ := x
    have bq := bl1 V (.cells #[.int .u64 (hI r.f), .int .u64 (lI r.f), .bool r.k, .int .i64 r.n] 50)
    have HKK := hid13 (fun a' h => hK a' _ (kf_below bq) (kz_below bq) ⟨⟨hU.below bq, hX.below bq⟩, hC⟩ ⟨V.heap.size, rnat_new V r _, hX.1, h⟩)
    clear hK bq hU hX hC
    unfold encB rnV
    simp only [List.zip_toArray, List.zip_cons_cons, List.zip_nil_left, List.zip_nil_right, List.foldl_toArray, List.foldl_cons, List.foldl_nil, List.setIfInBounds_toArray, List.set_cons_zero, List.set_cons_succ, Array.zip]
    gi_wp2
    refine HKK.out _ ?_
    exact ⟨rfl, rfl, rfl, rfl, rfl⟩
  case body =>
    rintro lo pre ⟨xi, r⟩ ⟨tm, df⟩ V hlo - ⟨⟨hU, hX⟩, hC⟩ ⟨Bx, hrn, hBx, hs, h1, h3, h7, hdf⟩ hsp
    dsimp only at hs h1 h3 h7 hdf hrn
    obtain ⟨u1, hu, htm⟩ := arr37b tm hs
    rw [← hu] at h1 h3 h7
    rw [htm, hdf, h1, h3, h7]
    clear hu htm hs hdf h1 h3 h7 tm df
    have hrm : r ∈ d.r := by
      have : (xi, r) ∈ (plcL d.r).reverse := hsp.mem (by simp)
      have h2 : r ∈ ((plcL d.r).map (·.2)) := List.mem_map.mpr ⟨(xi, r), List.mem_reverse.mp this, rfl⟩
      rwa [plc_snd] at h2
    have HF : Hid (((pre ++ [(xi, r)]).map (fun x : Int × Rn => x.2)).foldl (stpR (dfs L f)) S1 = stpR (dfs L f) ((pre.map (fun x : Int × Rn => x.2)).foldl (stpR (dfs L f)) S1) r) := by show _ = _; rw [List.map_append, List.foldl_append]; rfl
    generalize (pre.map (fun x : Int × Rn => x.2)).foldl (stpR (dfs L f)) S1 = S at *
    obtain ⟨r0, r1, r2, r3⟩ := hrn
    have HU := hid13 hU
    have HX := hid13 hX
    have HCS := hid13 hC
    have HV : Hid (w.heap.size + 6 ≤ W2.heap.size ∧ W2.heap.size ≤ lo) := ⟨by have := HSz.out; have := HS1.out; omega, hlo⟩
    clear hsp
    cases hk : r.k with
    | false =>
      rw [hk] at r2
      have HG : Hid (stpR (dfs L f) S r = S) := by show _ = _; unfold stpR; rw [hk]; rfl
      clear hk hU hX hC
      gi_wp2
      exact ⟨KeepsFrom.refl _ _, KZ.refl _ _, by dsimp only; rw [HF.out, HG.out]; exact ⟨⟨HU.out, HX.out⟩, HCS.out⟩⟩
    | true =>
      rw [hk] at r2
      obtain ⟨k1, k2, k3⟩ := HLd.out r hrm hk
      obtain ⟨k, hkn⟩ : ∃ k : Nat, r.n = (k : Int) := ⟨r.n.toNat, k3⟩
      rw [hkn] at r3 k1 k2
      rw [Int.toNat_natCast] at k1 k2
      have hki : (k : Int) < (L.length : Int) := by omega
      have m0 := at_16 hU.bm 0 _ rfl
      have g0 := hU.cell k2
      have q0 := at_16 hU.bd 0 _ rfl
      cases ht : S.1.getD k false with
      | true =>
        rw [ht] at g0
        have HG : Hid (stpR (dfs L f) S r = S) := by show _ = _; unfold stpR; rw [hk, hkn, Int.toNat_natCast, ht]; rfl
        clear hk hU hX hC ht k1 k3
        gi_wp2
        exact ⟨KeepsFrom.refl _ _, KZ.refl _ _, by dsimp only; rw [HF.out, HG.out]; exact ⟨⟨HU.out, HX.out⟩, HCS.out⟩⟩
      | false =>
        rw [ht] at g0
        have HG : Hid (stpR (dfs L f) S r = dfs L f k S) := by show _ = _; unfold stpR; rw [hk, hkn, Int.toNat_natCast, ht]; rfl
        have KD := HIH.out k S (c + 1) V k2 ht HCS.out (by have := HN.out; omega) HU.out
        have HC2 := hid13 (dfs_cnt ok f k S (c + 1) k2 ht HCS.out (by have := HN.out; omega))
        simp only [List.append_toArray, List.cons_append, List.nil_append] at KD
        clear hk hU hX hC ht k1 k3
        gi_wp2_with fail
        refine ⟨trivial, (CallsIn.inRound lo (callsIn_wide.2 KD)).mono ?_⟩
        rintro e V2 ⟨rfl, hD2, hX2⟩
        have HD3 := hid13 hD2
        have HX3 := hid13 hX2
        clear KD hD2 hX2 m0 g0 q0 r0 r1 r2 r3
        gi_wp2
        exact ⟨HX3.out.keeps (fun z hz => by have := HV.out; unfold DfX at hz; omega), HX3.out.kz (fun z hz q => by have := HS1.out; unfold DfX at q; rcases hz with z1 | z1 <;> omega), by dsimp only; rw [HF.out, HG.out]; exact ⟨⟨HD3.out, HX.out.trans HX3.out⟩, HC2.out⟩⟩
  case done =>
    rintro D ys V hDm rfl ⟨⟨hU, hX⟩, hC⟩ hK
    rw [List.map_reverse, plc_snd] at hU hC
    have HE2 := hid13 HE.out
    generalize d.r.reverse.foldl (stpR (dfs L f)) S1 = S at *
    have HX2 := hid13 hX
    have HCc : Hid (S.2.length + 1 ≤ L.length) := hid13 (by
      have h1 := hC.2
      have h2 := hC.1
      have h3 : S.1.count true ≤ S.1.length := List.count_le_length
      omega)
    have HU := hid13 hU
    have o0 := at_16 hU.bo 0 _ rfl
    have HO := hid13 hU.go
    have q8 := bl1 V (.cells #[.int .i64 (n : Int)] 3)
    have HU8 := hid13 (hU.below q8)
    have HX8 := hid13 (hX.below q8)
    have HK8 := hid13 ((q8.block D (lt_16 hK)).trans hK)
    have HDn : Hid (W2.heap.size ≤ D ∧ D < V.heap.size) := ⟨hDm, lt_16 hK⟩
    clear hU hX hC hK q8
    refine wl_nil16 (P := Try.prog) (ops := #[]) ?_
    go_wp2_with (at_builtin; apply stopHere9)
    refine (show wpList _ _ _ _ _ _ from ?_)
    refine wpList_append_fits _ rfl _ _ 37 rfl w.heap.size 3 i0 1 Try.underlying37 hi hz1 (w.heap.size + 1 + 1 + 1) S.2.length L.length (S.2.map cI) rfl HU8.out.go ⟨V.heap.size, 0, none⟩ 1 1 [cI (n : Int)] rfl rfl ?_ ?_ HCc.out ?_
    · intro j u hj
      cases j with
      | zero => simp at hj; subst hj; simp [go_sem, cI]
      | succ j => simp at hj
    · intro u hu
      simp at hu
      subst hu
      rfl
    intro w9 hO9 hg9
    have A9 := HU8.out.app hO9 hg9
    have X9 : KX (DfX w) W2 (w9.setCell ⟨w.heap.size + 1 + 1 + 1 + 1, 0, none⟩ (.slice (some ⟨w.heap.size + 1 + 1 + 1, 0, none⟩) (S.2.length + 1) L.length)) := by
      refine KX.set ?_ _ 0 _ (.inl (.inr (.inr rfl)))
      refine ⟨Nat.le_trans HX8.out.1 hg9.size, fun z h1 h2 => ?_⟩
      refine (hg9.block z (Nat.lt_of_lt_of_le h1 HX8.out.1) (fun e => ?_)).trans (HX8.out.2 z h1 h2)
      injection e with e
      exact h2 (.inr (.inl e))
    have kD : w9.heap[D]? = some (.deferred (some [])) := (hg9.block D (lt_16 HK8.out) (fun e => by injection e with e; have := HDn.out; have := HSz.out; have := HS1.out; omega)).trans HK8.out
    have b9 : w9.cell? ⟨w.heap.size + 1 + 1 + 1 + 1, 0, none⟩ = some (.slice (some ⟨w.heap.size + 1 + 1 + 1, 0, none⟩) S.2.length L.length) := at_16 ((hg9.block _ (lt_16 HU8.out.bo) (fun e => by injection e with e; omega)).trans HU8.out.bo) 0 _ rfl
    have b9f : w9.frozen? ⟨w.heap.size + 1 + 1 + 1 + 1, 0, none⟩ = false := fr_16 ((hg9.block _ (lt_16 HU8.out.bo) (fun e => by injection e with e; omega)).trans HU8.out.bo)
    have HA9 := hid13 A9
    have HX9 := hid13 X9
    have HK9 := hid13 kD
    clear A9 X9 kD hO9 hg9 HU8 HX8 HK8 HO HU o0
    go_wp2
    refine ⟨by simp, .inl ⟨_, _, rfl, run_takeDeferred ((far_16 (by have := HDn.out; have := HSz.out; have := HS1.out; omega)).trans HK9.out), ?_⟩⟩
    have hg := grownBy_putObj' (w9.setCell ⟨w.heap.size + 1 + 1 + 1 + 1, 0, none⟩ (.slice (some ⟨w.heap.size + 1 + 1 + 1, 0, none⟩) (S.2.length + 1) L.length)) D (.deferred none)
    have hk9 : (w9.setCell ⟨w.heap.size + 1 + 1 + 1 + 1, 0, none⟩ (.slice (some ⟨w.heap.size + 1 + 1 + 1, 0, none⟩) (S.2.length + 1) L.length)).heap[D]? = some (.deferred (some [])) := (far_16 (by have := HDn.out; have := HSz.out; have := HS1.out; omega)).trans HK9.out
    refine ⟨.tuple #[], by simp [results, Try.results72, go_sem], rfl, ?_, ?_⟩
    · rw [HE2.out]
      exact HA9.out.kept hg (fun r e => by cases e; exact ⟨by have := HDn.out; have := HSz.out; have := HS1.out; omega, _, hk9, rfl⟩)
    · have hx1 : KX (DfX w) W W2 := HX1.out.below HQ.out
      have hx2 := hx1.trans HX9.out
      refine ⟨Nat.le_trans hx2.1 hg.size, fun z h1 h2 => (hg.block z (Nat.lt_of_lt_of_le h1 hx2.1) (fun e => ?_)).trans (hx2.2 z h1 h2)⟩
      injection e with e
      have := HDn.out
      have := hx1.1
      omega
  case stop =>
    rintro D c pre V hD hpre h hK
    exact h.elim
end Go.Proofs.Ytdpmhpmnkollaaa
namespace Go.Proofs.Ytdpmhpmnkollaaa
open Go.RowKit Go.Shelf
set_option linter.unusedSimpArgs false
set_option linter.unusedVariables false
attribute [local go_sem] Oper.semAt_some

def RvI (xs ys : List Int) (i : Nat) : Prop := ys.length = xs.length ∧ ∀ k, k < xs.length → ys[k]? = if k < i ∨ xs.length - i ≤ k then xs[xs.length - 1 - k]? else xs[k]?
theorem rv_end {xs ys : List Int} {i : Nat} (h : RvI xs ys i) (hi : xs.length ≤ 2 * i + 1) : ys = xs.reverse := by
  apply List.ext_getElem?
  intro k
  by_cases hk : k < xs.length
  · rw [h.2 k hk, List.getElem?_reverse hk]
    by_cases hc : k < i ∨ xs.length - i ≤ k
    · rw [if_pos hc]
    · rw [if_neg hc]
      have : xs.length - 1 - k = k := by omega
      rw [this]
  · rw [List.getElem?_eq_none (by rw [h.1]; omega), List.getElem?_eq_none (by simp; omega)]
theorem rv_step {xs ys : List Int} {i : Nat} (h : RvI xs ys i) (hi : 2 * i + 1 < xs.length) (a b : Int) (ha : ys[i]? = some a) (hb : ys[xs.length - 1 - i]? = some b) : RvI xs ((ys.set i b).set (xs.length - 1 - i) a) (i + 1) := by
  refine ⟨by simp [h.1], fun k hk => ?_⟩
  have e1 := h.2 i (by omega)
  have e2 := h.2 (xs.length - 1 - i) (by omega)
  rw [if_neg (by omega)] at e1 e2
  rw [ha] at e1
  rw [hb] at e2
  rw [List.getElem?_set, List.getElem?_set, List.length_set]
  by_cases c1 : xs.length - 1 - i = k
  · subst c1
    rw [if_pos rfl, if_pos (by rw [h.1]; omega), if_pos (by omega), show xs.length - 1 - (xs.length - 1 - i) = i by omega, e1]
  · rw [if_neg c1]
    by_cases c2 : i = k
    · subst c2
      rw [if_pos rfl, if_pos (by rw [h.1]; omega), if_pos (by omega), e2]
    · rw [if_neg c2, h.2 k hk]
      by_cases c3 : k < i ∨ xs.length - i ≤ k
      · rw [if_pos c3, if_pos (by omega)]
      · rw [if_neg c3, if_neg (by omega)]
theorem own_cell16 {W : World} {base e n g cap : Nat} {ys : List Int} (h : W.ownsRow base e 1 (.slice (some ⟨g, 0, none⟩) n cap) n (ys.map cI)) {k : Nat} {a : Int} (hk : ys[k]? = some a) : W.cell? ⟨g, k, none⟩ = some (.int .i64 a) ∧ W.frozen? ⟨g, k, none⟩ = false := by
  constructor
  · have := h.cells (g := g) rfl k (cI a) (by rw [List.getElem?_map, hk]; rfl)
    rwa [addA, Nat.zero_add] at this
  · rcases h.2 with ⟨h1, -⟩ | ⟨g', cap', cur, h1, hb, hg, -⟩
    · cases h1
    · injection h1 with h1 h2 h3
      injection h1 with h1
      injection h1 with h1
      subst h1
      exact fr_16 hg
theorem own_set16 {W : World} {base e n g cap : Nat} {ys : List Int} (h : W.ownsRow base e 1 (.slice (some ⟨g, 0, none⟩) n cap) n (ys.map cI)) (k : Nat) (a : Int) : (W.setCell ⟨g, k, none⟩ (.int .i64 a)).ownsRow base e 1 (.slice (some ⟨g, 0, none⟩) n cap) n ((ys.set k a).map cI) ∧ W.grownBy (W.setCell ⟨g, k, none⟩ (.int .i64 a)) (some g) := by
  constructor
  · have := (h.stored k (.int .i64 a)).1
    rw [List.map_set]
    exact this
  · exact ⟨rfl, rfl, rfl, by simp, fun z _ hz => far_16 (fun e => hz (by rw [e]))⟩
set_option maxRecDepth 20000 in
set_option maxHeartbeats 8000000 in
theorem rev_any (base g cap : Nat) (xs : List Int) (w : World) (hl : xs.length ≤ 1000000000) (ho : w.ownsRow base 3 1 (.slice (some ⟨g, 0, none⟩) xs.length cap) xs.length (xs.map cI)) :
    Calls Try.prog 74 #[.slice (some ⟨g, 0, none⟩) xs.length cap] w fun e w' => e = .returned (.tuple #[]) ∧ w'.ownsRow base 3 1 (.slice (some ⟨g, 0, none⟩) xs.length cap) xs.length (xs.reverse.map cI) ∧ w.grownBy w' (some g) := by
  have HO := hid13 ho
  have HL : Hid (xs.length ≤ 1000000000) := hl
  have w0 : IntKind.i64.wrap ((xs.length : Int) - 1) = (xs.length : Int) - 1 := by rw [IntKind.wrap_i64]; omega
  clear ho
  go_enter Try.func74, Try.ntmps74
  go_wp2_with fail
  go_loopw [2, 3] (fun x2 x3 wr => ∃ (i : Nat) (ys : List Int), x2 = .int .i64 (i : Int) ∧ x3 = .int .i64 ((xs.length : Int) - 1 - i) ∧ Hid (i ≤ xs.length ∧ RvI xs ys i ∧ wr.ownsRow base 3 1 (.slice (some ⟨g, 0, none⟩) xs.length cap) xs.length (ys.map cI) ∧ w.grownBy wr (some g))) (fun x2 x3 wr => xs.length - (intOf x2).toNat)
  case atStart => exact ⟨0, xs, rfl, by simp, hid13 ⟨Nat.zero_le _, ⟨rfl, fun k hk => by rw [if_neg (by omega)]⟩, HO.out, World.grownBy.refl _ _⟩⟩
  case round =>
    clear HO w0
    obtain ⟨i, ys, rfl, rfl, HS⟩ := hrel
    by_cases hlt : 2 * i + 1 < xs.length
    · obtain ⟨j, hj⟩ : ∃ j, j = xs.length - 1 - i := ⟨_, rfl⟩
      have ej : (xs.length : Int) - 1 - (i : Int) = (j : Int) := by omega
      rw [ej]
      have hij : (i : Int) < (j : Int) := by omega
      have hne : i ≠ j := by omega
      have hni : (i : Int) < (xs.length : Int) := by omega
      have hnj : (j : Int) < (xs.length : Int) := by omega
      have hyl : ys.length = xs.length := HS.out.2.1.1
      obtain ⟨a, ha⟩ : ∃ a, ys[i]? = some a := ⟨ys[i]'(by omega), List.getElem?_eq_getElem _⟩
      obtain ⟨b, hb⟩ : ∃ b, ys[j]? = some b := ⟨ys[j]'(by omega), List.getElem?_eq_getElem _⟩
      obtain ⟨c1, f1⟩ := own_cell16 HS.out.2.2.1 ha
      obtain ⟨c2, f2⟩ := own_cell16 HS.out.2.2.1 hb
      have HN : Hid (RvI xs ((ys.set i b).set j a) (i + 1)) := hid13 (by have := rv_step HS.out.2.1 hlt a b ha (by rw [← hj]; exact hb); rwa [← hj] at this)
      have HJ : Hid (i + 1 ≤ xs.length ∧ (j : Int) = (xs.length : Int) - 1 - i) := ⟨by omega, ej.symm⟩
      have mi : IntKind.i64.wrap ((i : Int) + 1) = ((i + 1 : Nat) : Int) := by rw [IntKind.wrap_i64]; have := HL.out; push_cast; omega
      have mj : IntKind.i64.wrap ((j : Int) - 1) = (xs.length : Int) - 1 - ((i + 1 : Nat) : Int) := by rw [IntKind.wrap_i64]; have := HL.out; push_cast; omega
      clear hj ej hyl ha hb hlt
      go_wp2_with fail
      go_region
      have k1 := own_set16 HS.out.2.2.1 i b
      have k2 := own_set16 k1.1 j a
      have HO2 := hid13 (k2.1.drew)
      have HG2 : Hid (w.grownBy ((wr.setCell ⟨g, i, none⟩ (.int .i64 b)).setCell ⟨g, j, none⟩ (.int .i64 a)).drew (some g)) := hid13 (by
        have e1 := HS.out.2.2.2
        exact ⟨e1.os, e1.tape, e1.output, by simpa [World.drew] using e1.size, fun z h1 h2 => (show ((wr.setCell ⟨g, i, none⟩ (.int .i64 b)).setCell ⟨g, j, none⟩ (.int .i64 a)).heap[z]? = _ from (far_16 (fun e => h2 (by rw [e]))).trans ((far_16 (fun e => h2 (by rw [e]))).trans (e1.block z h1 h2)))⟩)
      clear k1 k2 c1 f1 c2 f2 HS
      go_wp2
      go_roundw
      case rel => exact ⟨i + 1, (ys.set i b).set j a, by first | rfl | simp, by first | rfl | simp, hid13 ⟨HJ.out.1, HN.out, HO2.out, HG2.out⟩⟩
      case measure => have := HJ.out.1; first | (simp [intOf]; done) | (simp [intOf]; omega) | (unfold intOf; simp; omega)
    · have hge : ¬ (i : Int) < (xs.length : Int) - 1 - (i : Int) := by omega
      have HE := hid13 (rv_end HS.out.2.1 (by omega))
      clear hlt
      go_wp2
      go_end0
      exact ⟨rfl, by rw [← List.map_reverse, ← HE.out]; exact HS.out.2.2.1, HS.out.2.2.2⟩
theorem storeF_16 {P : Program} {w : World} {a : Addr} {m : Mode} (f : Fn) (x l : Array Value) : (store a (.func f x l) m).run P w = stored P w a (.func f x l) m := run_store P w a _ m rfl
attribute [local go_sem] storeF_16
def ordL (L : List Nde) : List Int := (dfs L L.length 0 (List.replicate L.length false, [])).2.reverse
set_option maxRecDepth 20000 in
set_option maxHeartbeats 8000000 in
theorem walk_any (v : Value) (L : List Nde) (w : World) (hv : RwD w v L) (ok : NdsOk L) (hl : L.length ≤ 1000000000) (hr : ∀ d ∈ L, d.r.length ≤ 1000000000) :
    Calls Try.prog 53 #[v] w fun e w' => ∃ v', e = .returned v' ∧ w'.ownsRow w.heap.size 3 1 v' (ordL L).length ((ordL L).map cI) ∧ Below w.heap.size w w' := by
  obtain ⟨i0, hi, hz0, hz1, hz2⟩ := info13 Try.infoO16
  obtain ⟨j0, hj, hj0, hj1, hj2⟩ := info13 Try.infoN16
  obtain ⟨ao, c, hvf, -⟩ := id hv
  have HV := hid13 hv
  have h0 := ok.1
  have KD := fun W h => down_any v L w hv ok hl hr L.length 0 (List.replicate L.length false, []) 0 W h0 (by rw [List.getD_eq_getElem?_getD, List.getElem?_replicate_of_lt h0]; rfl) ⟨by simp, by simp [List.count_replicate]⟩ (by omega) h
  have hmf : ∀ (fn : Fn) (first cap : Array Value) (w : World), (Instr.makeFunc fn first cap).run Try.prog w = .ok (.func fn first cap) w := fun _ _ _ _ => rfl
  simp only [List.append_toArray, List.cons_append, List.nil_append, Int.natCast_zero] at KD
  subst hvf
  clear hv hr
  go_enter Try.func53, Try.ntmps53
  go_wp2_with (at_make; apply stopHere9)
  refine (show wpList _ _ _ _ _ _ from ?_)
  refine wpList_make16 _ rfl _ _ 55 rfl 4 i0 (.bool false) Try.underlying55 hi hz0 .i64 .i64 _ _ L.length L.length rfl rfl rfl rfl (Nat.le_refl _) (by rw [hz2]; omega) (by unfold maxLen; omega) ?_
  have eO : madeCells (Value.bool false).cells (L.length * i0.size) = ((List.replicate L.length false).map cBo).toArray := by rw [hz1, Nat.mul_one, List.map_replicate]; exact made_one16 _ _
  rw [eO]
  clear eO
  obtain ⟨O1, hO1⟩ : ∃ O : Obj, O = .cells ((List.replicate L.length false).map cBo).toArray 4 := ⟨_, rfl⟩
  rw [← hO1]
  have HO1 := hid13 hO1
  clear hO1
  go_wp2_with (at_make; apply stopHere9)
  refine (show wpList _ _ _ _ _ _ from ?_)
  refine wpList_make16 _ rfl _ _ 37 rfl 3 j0 (.int .i64 0) Try.underlying37 hj hj0 .i64 .i64 _ _ 0 L.length rfl rfl rfl rfl (Nat.zero_le _) (by rw [hj2]; omega) (by unfold maxLen; omega) ?_
  obtain ⟨O2, hO2⟩ : ∃ O : Obj, O = .cells (madeCells (Value.int IntKind.i64 0).cells (L.length * j0.size)) 3 := ⟨_, rfl⟩
  rw [← hO2]
  have D0 : DfV w (.slice ao L.length c) L.length (List.replicate L.length false, []) ((((((w.alloc (.cells #[.slice ao L.length c] 22)).alloc O1).alloc (.cells #[.slice (some ⟨w.heap.size + 1, 0, none⟩) L.length L.length] 55)).alloc O2).alloc (.cells #[.slice (some ⟨w.heap.size + 1 + 1 + 1, 0, none⟩) 0 L.length] 37)).alloc (.cells #[.func (.func 72) #[] #[.pointer (some ⟨w.heap.size + 1 + 1, 0, none⟩), .pointer (some ⟨w.heap.size, 0, none⟩), .pointer (some ⟨w.heap.size + 1 + 1 + 1 + 1 + 1, 0, none⟩), .pointer (some ⟨w.heap.size + 1 + 1 + 1 + 1, 0, none⟩)]] 141)) := by
    have e1 : (w.alloc (.cells #[.slice ao L.length c] 22)).heap.size = w.heap.size + 1 := by simp
    have n0 := new_16 w (.cells #[.slice ao L.length c] 22)
    have n1 := new_16 (w.alloc (.cells #[.slice ao L.length c] 22)) O1
    have n2 := new_16 ((w.alloc (.cells #[.slice ao L.length c] 22)).alloc O1) (.cells #[.slice (some ⟨w.heap.size + 1, 0, none⟩) L.length L.length] 55)
    have n3 := new_16 (((w.alloc (.cells #[.slice ao L.length c] 22)).alloc O1).alloc (.cells #[.slice (some ⟨w.heap.size + 1, 0, none⟩) L.length L.length] 55)) O2
    have n4 := new_16 ((((w.alloc (.cells #[.slice ao L.length c] 22)).alloc O1).alloc (.cells #[.slice (some ⟨w.heap.size + 1, 0, none⟩) L.length L.length] 55)).alloc O2) (.cells #[.slice (some ⟨w.heap.size + 1 + 1 + 1, 0, none⟩) 0 L.length] 37)
    have n5 := new_16 (((((w.alloc (.cells #[.slice ao L.length c] 22)).alloc O1).alloc (.cells #[.slice (some ⟨w.heap.size + 1, 0, none⟩) L.length L.length] 55)).alloc O2).alloc (.cells #[.slice (some ⟨w.heap.size + 1 + 1 + 1, 0, none⟩) 0 L.length] 37)) (.cells #[.func (.func 72) #[] #[.pointer (some ⟨w.heap.size + 1 + 1, 0, none⟩), .pointer (some ⟨w.heap.size, 0, none⟩), .pointer (some ⟨w.heap.size + 1 + 1 + 1 + 1 + 1, 0, none⟩), .pointer (some ⟨w.heap.size + 1 + 1 + 1 + 1, 0, none⟩)]] 141)
    simp only [World.size_alloc] at n1 n2 n3 n4 n5
    refine ⟨old_16 _ (old_16 _ (old_16 _ (old_16 _ (old_16 _ n0)))), ?_, old_16 _ (old_16 _ (old_16 _ n2)), ?_, old_16 _ n4, n5, ?_, by simp⟩
    · have := old_16 (.cells #[.func (.func 72) #[] #[.pointer (some ⟨w.heap.size + 1 + 1, 0, none⟩), .pointer (some ⟨w.heap.size, 0, none⟩), .pointer (some ⟨w.heap.size + 1 + 1 + 1 + 1 + 1, 0, none⟩), .pointer (some ⟨w.heap.size + 1 + 1 + 1 + 1, 0, none⟩)]] 141) (old_16 (.cells #[.slice (some ⟨w.heap.size + 1 + 1 + 1, 0, none⟩) 0 L.length] 37) (old_16 O2 (old_16 (.cells #[.slice (some ⟨w.heap.size + 1, 0, none⟩) L.length L.length] 55) n1)))
      rw [this, HO1.out]
    · have := old_16 (.cells #[.func (.func 72) #[] #[.pointer (some ⟨w.heap.size + 1 + 1, 0, none⟩), .pointer (some ⟨w.heap.size, 0, none⟩), .pointer (some ⟨w.heap.size + 1 + 1 + 1 + 1 + 1, 0, none⟩), .pointer (some ⟨w.heap.size + 1 + 1 + 1 + 1, 0, none⟩)]] 141) (old_16 (.cells #[.slice (some ⟨w.heap.size + 1 + 1 + 1, 0, none⟩) 0 L.length] 37) n3)
      refine ⟨rfl, .inr ⟨w.heap.size + 1 + 1 + 1, L.length, madeCells (Value.int IntKind.i64 0).cells (L.length * j0.size), rfl, by omega, ?_, Nat.zero_le _, by unfold maxLen; omega, ?_, rfl⟩⟩
      · rw [this, hO2]
      · rw [size_madeCells, hj1]
    · exact ((((((Below.refl _ _).alloc (Nat.le_refl _) _).alloc (by simp) _).alloc (by simp; omega) _).alloc (by simp; omega) _).alloc (by simp; omega) _).alloc (by simp; omega) _
  have HD0 := hid13 D0
  have KD1 := KD _ D0
  clear D0 HO1 hO2 KD
  go_wp2_with fail
  refine KD1.mono ?_
  rintro e W2 ⟨rfl, hD2, hX2⟩
  have o2 := at_16 hD2.bo 0 _ rfl
  have HD2 := hid13 hD2
  have HCn := hid13 (dfs_cnt ok L.length 0 (List.replicate L.length false, []) 0 h0 (by rw [List.getD_eq_getElem?_getD, List.getElem?_replicate_of_lt h0]; rfl) ⟨by simp, by simp [List.count_replicate]⟩ (by omega))
  have HOr : Hid (ordL L = (dfs L L.length 0 (List.replicate L.length false, [])).2.reverse) := rfl
  generalize dfs L L.length 0 (List.replicate L.length false, []) = S at *
  have hSl : S.2.length ≤ L.length := by
    have h1 := HCn.out.2
    have h2 := HCn.out.1
    have h3 : S.1.count true ≤ S.1.length := List.count_le_length
    omega
  have KR := rev_any w.heap.size (w.heap.size + 1 + 1 + 1) L.length S.2 W2 (by omega) hD2.go
  clear hD2 hX2 KD1 HD0 hSl
  go_wp2_with fail
  refine KR.mono ?_
  rintro e W3 ⟨rfl, hO3, hg3⟩
  have o3 : W3.cell? ⟨w.heap.size + 1 + 1 + 1 + 1, 0, none⟩ = some (.slice (some ⟨w.heap.size + 1 + 1 + 1, 0, none⟩) S.2.length L.length) := at_16 ((hg3.block _ (lt_16 HD2.out.bo) (fun e => by injection e with e; omega)).trans HD2.out.bo) 0 _ rfl
  have HO3 : Hid (W3.ownsRow w.heap.size 3 1 (.slice (some ⟨w.heap.size + 1 + 1 + 1, 0, none⟩) S.2.length L.length) (ordL L).length ((ordL L).map cI)) := by show World.ownsRow _ _ _ _ _ _ _; rw [HOr.out, List.length_reverse]; exact hO3
  have HB3 := hid13 (HD2.out.b.grown hg3 HD2.out.b.size (fun r e => by injection e with e; omega))
  clear KR hO3 hg3 o2 HCn
  go_wp2
  exact bodyPost_ret (v := .slice (some ⟨w.heap.size + 1 + 1 + 1, 0, none⟩) S.2.length L.length) (by simp [results, Try.results53, go_sem]) rfl ⟨_, rfl, HO3.out, HB3.out⟩
end Go.Proofs.Ytdpmhpmnkollaaa
namespace Go.Proofs.Ytdpmhpmnkollaaa
open Go.RowKit Go.Shelf
set_option linter.unusedSimpArgs false
set_option linter.unusedVariables false
attribute [local go_sem] Oper.semAt_some

theorem chk_ok {F : Int} {L : List Nde} (h : (chkM F L).2 = 0) : NdsOk L ∧ usedB L = true ∧ fam F = true ∧ chkM F L = deepR F L := by
  unfold chkM at h ⊢
  by_cases hf : fam F = true
  · rw [if_pos hf] at h ⊢
    by_cases hn : nodesE L = 0
    · rw [if_pos hn] at h ⊢
      by_cases hu : usedB L = true
      · rw [if_pos hu]
        exact ⟨nodes_ok hn, hu, hf, rfl⟩
      · rw [if_neg hu] at h; cases h
    · rw [if_neg hn] at h; exact absurd h hn
  · rw [if_neg hf] at h; cases h
def ordR (F : Int) (L : List Nde) : List Int := if (chkM F L).2 = 0 then ordL L else []
set_option maxRecDepth 20000 in
set_option maxHeartbeats 4000000 in
theorem order_any (F : Int) (v : Value) (L : List Nde) (w : World) (hv : RwD w v L) (hl : L.length ≤ 1000000000) (hr : ∀ d ∈ L, d.r.length ≤ 1000000000) :
    Calls Try.prog 35 #[.int .i64 F, v] w fun e w' => ∃ v', e = .returned (.tuple #[v', .int .i64 (chkM F L).2]) ∧ w'.ownsRow w.heap.size 3 1 v' (ordR F L).length ((ordR F L).map cI) ∧ Below w.heap.size w w' := by
  have KC := mcheck_any F v L w hv hl hr
  have HV := hid13 hv
  have HOk := hid13 (fun h => (chk_ok (F := F) (L := L) h).1)
  have HOr : Hid (∀ e, (chkM F L).2 = e → ordR F L = if e = 0 then ordL L else []) := hid13 (fun e h => by unfold ordR; rw [h])
  have HLr : Hid (L.length ≤ 1000000000 ∧ ∀ d ∈ L, d.r.length ≤ 1000000000) := ⟨hl, hr⟩
  generalize chkM F L = cm at *
  obtain ⟨cd, ce⟩ := cm
  dsimp only at KC HOk HOr
  clear hv hr hl
  go_enter Try.func35, Try.ntmps35
  go_wp2_with fail
  refine KC.mono ?_
  rintro e w2 ⟨rfl, hb2⟩
  have HB2 := hid13 hb2
  have HV2 := hid13 (HV.out.below hb2)
  clear KC hb2 HV
  by_cases h0 : ce = 0
  · have HE := hid13 (HOr.out 0 h0)
    have KW := walk_any v L w2 HV2.out (HOk.out h0) HLr.out.1 HLr.out.2
    subst h0
    clear HOk HOr
    go_wp2_with fail
    refine KW.mono ?_
    rintro e w3 ⟨v', rfl, ho, hb3⟩
    have HO := hid13 ho
    have HB3 := hid13 (keepb hb3 HB2.out)
    have HBs := hid13 HB2.out.size
    clear KW ho hb3
    go_wp2
    refine bodyPost_ret (v := .tuple #[v', .int .i64 0]) (by simp [results, Try.results35, go_sem]) rfl ⟨v', rfl, ?_, HB3.out⟩
    rw [HE.out]
    exact own_base16 HO.out HBs.out
  · have hn : (ce != 0) = true := by simpa using h0
    have HE : Hid (ordR F L = []) := by show _ = _; rw [HOr.out ce rfl, if_neg h0]
    clear HOk HOr
    go_wp2
    refine bodyPost_ret (v := .tuple #[.slice none 0 0, .int .i64 ce]) (by simp [results, Try.results35, go_sem]) rfl ⟨_, rfl, ?_, HB2.out⟩
    rw [HE.out]
    exact World.ownsRow_nil _ _ _ _
end Go.Proofs.Ytdpmhpmnkollaaa
