/-
  Part 30 of the proof: 2 texts, one behind the other.
-/
import Derived.Test.YtdpmhpmnkollaaaPart29
import Derived.Test.YtdpmhpmnkollaaaPart18
import Derived.Test.YtdpmhpmnkollaaaPart23
import Derived.Test.YtdpmhpmnkollaaaPart25
import Derived.Test.YtdpmhpmnkollaaaPart9
namespace Go.Proofs.Ytdpmhpmnkollaaa
open Go.RowKit Go.Shelf
set_option linter.unusedSimpArgs false
set_option linter.unusedVariables false
attribute [local go_sem] Oper.semAt_some

structure TnS (X0 : World) (bt : Int) (vr : Value) (RS : List Rn) (XB RB : Nat) (eop enn : Int) (eu : Value) (i kid nn : Value) (W : World) : Prop where
  t : TnV X0 bt vr RS W
  x : W.heap[XB]? = some (.cells #[.int .i64 eop, .int .i64 enn, eu] 67)
  r : W.heap[RB]? = some (.cells #[.int .u64 0, i, kid, nn] 50)
  l : X0.heap.size < XB ∧ XB < RB
  n : vr.ownBlock ≠ some RB
theorem TnS.below {X0 W W' : World} {bt : Int} {vr : Value} {RS : List Rn} {XB RB : Nat} {eop enn : Int} {eu i kid nn : Value} (h : TnS X0 bt vr RS XB RB eop enn eu i kid nn W) (hb : Below W.heap.size W W') : TnS X0 bt vr RS XB RB eop enn eu i kid nn W' :=
  ⟨h.t.below hb, (hb.block _ (lt_16 h.x)).trans h.x, (hb.block _ (lt_16 h.r)).trans h.r, h.l, h.n⟩
theorem TnS.kid {X0 W : World} {bt : Int} {vr : Value} {RS : List Rn} {XB RB : Nat} {eop enn : Int} {eu i kid nn : Value} (h : TnS X0 bt vr RS XB RB eop enn eu i kid nn W) (u : Value) : TnS X0 bt vr RS XB RB eop enn eu i u nn (W.setCell ⟨RB, 2, none⟩ u) :=
  ⟨h.t.far (by have := h.l; omega) h.n u, (far_16 (by have := h.l; omega)).trans h.x, by rw [set_16 h.r]; rfl, h.l, h.n⟩
theorem TnS.num {X0 W : World} {bt : Int} {vr : Value} {RS : List Rn} {XB RB : Nat} {eop enn : Int} {eu i kid nn : Value} (h : TnS X0 bt vr RS XB RB eop enn eu i kid nn W) (u : Value) : TnS X0 bt vr RS XB RB eop enn eu i kid u (W.setCell ⟨RB, 3, none⟩ u) :=
  ⟨h.t.far (by have := h.l; omega) h.n u, (far_16 (by have := h.l; omega)).trans h.x, by rw [set_16 h.r]; rfl, h.l, h.n⟩
theorem TnS.new {X0 wr : World} {bt : Int} {vr : Value} {RS : List Rn} (h : TnV X0 bt vr RS wr) (eop enn : Int) (eu i kid nn : Value) : TnS X0 bt vr RS wr.heap.size (wr.heap.size + 1) eop enn eu i kid nn ((wr.alloc (.cells #[.int .i64 eop, .int .i64 enn, eu] 67)).alloc (.cells #[.int .u64 0, i, kid, nn] 50)) := by
  have q1 := bl1 wr (.cells #[.int .i64 eop, .int .i64 enn, eu] 67)
  have n1 := new_16 wr (.cells #[.int .i64 eop, .int .i64 enn, eu] 67)
  have q2 := bl1 (wr.alloc (.cells #[.int .i64 eop, .int .i64 enn, eu] 67)) (.cells #[.int .u64 0, i, kid, nn] 50)
  have n2 := new_16 (wr.alloc (.cells #[.int .i64 eop, .int .i64 enn, eu] 67)) (.cells #[.int .u64 0, i, kid, nn] 50)
  rw [World.size_alloc] at n2
  refine ⟨h.below (keepb q2 q1), (q2.block _ (lt_16 n1)).trans n1, n2, ⟨lt_16 h.n, by omega⟩, fun q => ?_⟩
  have := (h.o.lt _ q).2
  omega
set_option maxRecDepth 100000 in
set_option maxHeartbeats 16000000 in
theorem rtree18 (w : World) (F : Int) (co : Option Addr) (cc : Nat) (lb : List Nat) (hcode : RwX cB w (.slice co lb.length cc) lb) (hlb : lb.length ≤ 4194304) (hxb : ∀ b ∈ lb, b < 256) :
    Calls Try.prog 10 #[.int .i64 F, .slice co lb.length cc] w (TrQ w F lb) := by
  obtain ⟨i0, hi, hz0, hz1, hz2⟩ := info13 Try.infoRn16
  obtain ⟨j0, ji, jz0, jz1, jz2⟩ := info13 Try.infoD16
  have KR := rblocks18 w F co cc lb hcode hlb hxb
  have HC := hid13 hcode
  have HX : Hid (lb.length ≤ 4194304 ∧ ∀ b ∈ lb, b < 256) := ⟨hlb, hxb⟩
  have HMp := hid13 (fun h hn => vfP_map (F := F) (l := lb) hxb h hn)
  have HOk := hid13 (fun h hn => vfP_ok (F := F) (l := lb) h hn)
  obtain ⟨nb, hnb⟩ : ∃ n, n = lb.length := ⟨_, rfl⟩
  rw [← hnb] at KR ⊢
  have HNb : Hid (nb = lb.length) := hnb
  unfold RbkQ at KR
  clear hcode hlb hxb hnb
  go_enter Try.func10, Try.ntmps10
  go_wp2_with fail
  refine KR.mono ?_
  rintro e w1 ⟨v, rfl, hb1, hv0, hv1⟩
  have HB1 := hid13 hb1
  clear KR
  by_cases hE : (vfR F lb).2.2 = 0
  · have HEq : Hid ((vfR F lb).2.2 = 0) := hE
    by_cases hR : dcE lb 0 = 0 ∧ (dcI lb 0).op = 4
    · have hvn := hv0 (.inr hR)
      subst hvn
      have KD := rdecode14 (.slice co nb cc) lb 0 w1 (by rw [HNb.out]; exact HC.out.below hb1) (by have := HX.out; omega) HX.out.2
      unfold insV at KD
      have HT : Hid (trL lb = oneN (dcI lb 0).n) := hid13 (by unfold trL; rw [if_pos hR])
      rw [hE]
      generalize (vfR F lb).1 = z1 at *
      generalize (vfR F lb).2.1 = z2 at *
      generalize (dcI lb 0).op = dO at *
      generalize (dcI lb 0).n = dN at *
      generalize dcZ lb 0 = dZ at *
      generalize dcE lb 0 = dE at *
      clear hv0 hv1 hE hR hb1
      go_wp2_with fail
      refine KD.mono ?_
      rintro e w2 ⟨v', rfl, ho, hb2⟩
      obtain ⟨mo, mc, hv'⟩ := own_form ho
      obtain ⟨mn, hmn⟩ : ∃ mn, mn = (dcI lb 0).m.length := ⟨_, rfl⟩
      rw [← hmn] at hv'
      subst hv'
      have q3 := bl1 w2 (.cells #[.int .i64 dO, .int .i64 dN, .slice mo mn mc] 67)
      have n3 := new_16 w2 (.cells #[.int .i64 dO, .int .i64 dN, .slice mo mn mc] 67)
      have HB3 := hid13 (keepb q3 (keepb hb2 HB1.out))
      have c1 := at_16 n3 1 _ rfl
      obtain ⟨W3, hW3⟩ : ∃ W3, W3 = w2.alloc (.cells #[.int .i64 dO, .int .i64 dN, .slice mo mn mc] 67) := ⟨_, rfl⟩
      rw [← hW3] at HB3 c1
      have s3 : W3.heap.size = w2.heap.size + 1 := by rw [hW3, World.size_alloc]
      have q4 := bl1 W3 (.cells #[.int .u64 0, .int .u64 0, .bool false, .int .i64 dN] 50)
      have s4 : (W3.alloc (.cells #[.int .u64 0, .int .u64 0, .bool false, .int .i64 dN] 50)).heap.size = W3.heap.size + 1 := World.size_alloc ..
      have q5 := bl1 (W3.alloc (.cells #[.int .u64 0, .int .u64 0, .bool false, .int .i64 dN] 50)) (.cells #[.int .i64 0, .slice (some ⟨W3.heap.size, 0, none⟩) 1 1] 53)
      have o1 := own_row18 W3 w.heap.size 50 4 1 [.int .u64 0, .int .u64 0, .bool false, .int .i64 dN] HB3.out.size rfl (by decide)
      have o2 := own_row18 (W3.alloc (.cells #[.int .u64 0, .int .u64 0, .bool false, .int .i64 dN] 50)) w.heap.size 53 2 1 [.int .i64 0, .slice (some ⟨W3.heap.size, 0, none⟩) 1 1] (by have := HB3.out.size; omega) rfl (by decide)
      have e1 : rowN [⟨0#128, false, dN⟩] = [.int .u64 0, .int .u64 0, .bool false, .int .i64 dN] := by
        unfold rowN
        rw [List.flatMap_cons, hI_zero, lI_zero]; rfl
      have HF : Hid (TrQ w F lb (.returned (.tuple #[.slice (some ⟨W3.heap.size + 1, 0, none⟩) 1 1, .int .i64 0])) ((W3.alloc (.cells #[.int .u64 0, .int .u64 0, .bool false, .int .i64 dN] 50)).alloc (.cells #[.int .i64 0, .slice (some ⟨W3.heap.size, 0, none⟩) 1 1] 53))) := hid13 (by
        refine ⟨_, [.slice (some ⟨W3.heap.size, 0, none⟩) 1 1], by rw [HEq.out], fun q => absurd HEq.out q, fun _ => ?_, keepb q5 (keepb q4 HB3.out)⟩
        rw [HT.out]
        refine ⟨?_, rfl, fun j d u h1 h2 => ?_, fun j k x y z h1 h2 _ _ => ?_⟩
        · rw [← s4]; exact o2
        · match j, h1, h2 with
          | 0, h1, h2 =>
            unfold oneN at h1
            simp at h1 h2
            subst h1 h2
            dsimp only
            rw [e1]
            exact own_b13 q5 o1
          | j + 1, h1, h2 => simp at h2
        · match j, k, h1, h2 with
          | 0, 0, _, _ => rfl
          | 0, k + 1, _, h2 => simp at h2
          | j + 1, _, h1, _ => simp at h1)
      rw [s3] at HF
      clear hmn ho hb2 q3 n3 q4 q5 o1 o2 e1 KD s4 s3
      rw [hW3] at c1 HF
      clear hW3
      go_wp2
      exact bodyPost_ret (v := .tuple #[.slice (some ⟨w2.heap.size + 1 + 1, 0, none⟩) 1 1, .int .i64 0]) (by simp [results, Try.results10, go_sem]) rfl HF.out
    · obtain ⟨Kv, D, hK, hlk, hsr, hDl, hD0, hDf, hvn⟩ := hv1 hE hR
      obtain ⟨ok1, ok2⟩ := HOk.out hE hR
      have hmp := HMp.out hE hR
      obtain ⟨g, c, hvg, -⟩ := own_some18 hK.o (by rw [hK.l]; exact hD0)
      subst hvg
      obtain ⟨n, hn⟩ : ∃ n, n = Kv.length := ⟨_, rfl⟩
      have hw : wds lb ≤ 1048576 := by unfold wds; have := HX.out; omega
      have HN : Hid (n = D.length ∧ n = Kv.length ∧ n ≤ 1048576) := ⟨by rw [hn, hK.l], hn, by rw [hn, hK.l]; omega⟩
      have HK := hid13 hK
      have HLk := hid13 hlk
      have HSr := hid13 hsr
      have HDf := hid13 hDf
      have HOk1 := hid13 ok2
      have HMp1 := hid13 hmp
      have HW := hid13 hw
      have HT : Hid (trL lb = ndsL (vfP lb)) := hid13 (by unfold trL; rw [if_neg hR])
      have KFi := hid13 (fun X (h : Below w1.heap.size w1 X) x => kfind18 (hK.below h) x hsr (by omega))
      rw [← hn] at KFi ⊢
      rw [hE]
      have hn0 : ((n : Int) == 0) = false := by
        have : ¬ (n : Int) = 0 := by rw [hn, hK.l]; omega
        simpa using this
      have HPl : Hid ((vfP lb).length = n) := hid13 (by rw [← hlk, lkD_len, hn, hK.l])
      have HN0 : Hid (NdO w1 w1.heap.size (.slice none 0 0) [] ((ndsL (vfP lb)).take 0)) := hid13 (NdO.nil (World.ownsRow_nil _ _ _ _))
      have HB0 := hid13 (Below.refl w1.heap.size w1)
      generalize (vfR F lb).1 = z1 at *
      generalize (vfR F lb).2.1 = z2 at *
      clear hv0 hv1 hE hR hb1 hK hlk hsr hDl hD0 hDf hvn ok1 ok2 hmp hn hw
      go_wp2_with fail
      go_loopg [13, 14] n (fun gk lv kv wr => ∃ (k : Nat) (V : List Value), k + gk = n ∧ kv = .int .i64 (k : Int) ∧ Hid (NdO wr w1.heap.size lv V ((ndsL (vfP lb)).take k) ∧ Below w1.heap.size w1 wr))
      case atStart => exact ⟨0, [], by omega, rfl, hid13 ⟨HN0.out, HB0.out⟩⟩
      case round =>
        clear HN0 HB0
        obtain ⟨k, V, hk, rfl, HI⟩ := hrel
        by_cases hlt : (k : Int) < (n : Int)
        · have hkD : k < D.length := by have := HN.out; omega
          obtain ⟨d, hd⟩ : ∃ d, D[k]? = some d := ⟨_, List.getElem?_eq_getElem hkD⟩
          obtain ⟨x, hx, hxa, hxt, hxe, hxm, es, hxo, hxs, hxl⟩ := HK.out.get hd
          obtain ⟨-, r1, r2, r3, r4⟩ := rowK_get Kv k x hx
          have hKo := HK.out.o
          rw [← HN.out.2.1] at hKo
          have k1 := (own_at18 hKo r1).1
          have k2 := (own_at18 hKo r2).1
          have k3 := (own_at18 hKo r3).1
          have k4 := (own_at18 hKo r4).1
          obtain ⟨mo, mc, hvm⟩ := own_form hxm
          obtain ⟨eo, ec, hve⟩ := own_form hxo
          have hPk : (vfP lb)[k]? = some (lkB (D.map DB.a) d.pb) := by rw [← HLk.out]; unfold lkD; rw [List.getElem?_map, List.getElem?_map, hd]; rfl
          obtain ⟨b, hb⟩ : ∃ b, b = lkB (D.map DB.a) d.pb := ⟨_, rfl⟩
          rw [← hb] at hPk
          have hbok := HOk1.out b (List.mem_of_getElem? hPk)
          have hbmp := HMp1.out b (List.mem_of_getElem? hPk)
          have hbm : b.m = d.m := by rw [hb]; rfl
          have hbt : b.t = d.t := by rw [hb]; rfl
          have hbe : b.es = (prE d.en d.es).map (lkX (D.map DB.a)) := by rw [hb]; rfl
          have hdf := (HDf.out d (List.mem_of_getElem? hd)).1
          rw [hbm, hbt] at hbmp hbok
          obtain ⟨T, hT⟩ : ∃ T : Nat, d.t = (T : Int) := ⟨d.t.toNat, by omega⟩
          rw [hT, Int.toNat_natCast] at hbmp
          obtain ⟨hct, hcl⟩ := cnt_map d.m T hbmp
          obtain ⟨ml, hml⟩ : ∃ ml, ml = d.m.length := ⟨_, rfl⟩
          obtain ⟨mm, hmm⟩ : ∃ mm, mm = es.length := ⟨_, rfl⟩
          rw [hvm, ← hml] at k2
          rw [hve, ← hmm] at k4
          rw [hxt, hT] at k1
          rw [hxe] at k3
          rw [hve, ← hmm] at hxo
          rw [hvm, ← hml] at hxm
          have hel : d.es.length = mm := by rw [← hxs, List.length_map, hmm]
          have hbel : b.es.length = mm := by rw [hbe, List.length_map, prE_len, hel]
          have HCl : Hid (∀ X, Below w1.heap.size w1 X → X.cell? ⟨g, k * 5 + 1, none⟩ = some (.int .i64 (T : Int)) ∧ X.cell? ⟨g, k * 5 + 2, none⟩ = some (.slice mo ml mc) ∧ X.cell? ⟨g, k * 5 + 3, none⟩ = some (.int .i64 d.en) ∧ X.cell? ⟨g, k * 5 + 4, none⟩ = some (.slice eo mm ec)) := hid13 (fun X h => ⟨keepc h k1, keepc h k2, keepc h k3, keepc h k4⟩)
          have HXm : Hid (RwX cU w1 (.slice mo ml mc) d.m) := hid13 (by rw [hml] at hxm ⊢; exact own_rwx hxm)
          have HXo := hid13 hxo
          have hwd := HW.out
          have HD : Hid (D[k]? = some d ∧ es.map Prod.fst = d.es ∧ mm = es.length ∧ b.es = (prE d.en d.es).map (lkX (D.map DB.a)) ∧ b.es.length = mm ∧ ml = d.m.length ∧ (mm : Int) ≤ 1048576 ∧ (ml : Int) ≤ 1048576 ∧ b.es.length = sumW d.m d.m.length) := hid13 ⟨hd, hxs, hmm, hbe, hbel, hml, by omega, by omega, hbok.1⟩
          have HDe : Hid (0 ≤ d.en ∧ d.en ≤ 10000000 ∧ ∀ e ∈ d.es, 0 ≤ e.2 ∧ e.2 ≤ 16777215) := hid13 ⟨by have h9 := (HDf.out d (List.mem_of_getElem? hd)).2; have := hdf.e; omega, by have h9 := (HDf.out d (List.mem_of_getElem? hd)).2; have := hdf.e; omega, hdf.n⟩
          have HSl := hid13 hxl
          have HTT : Hid (1 ≤ T ∧ T ≤ 24 ∧ cnt d.m (2 ^ T) = sumW d.m d.m.length ∧ 2 ^ T ≤ 32 * ml) := hid13 ⟨by omega, by omega, hct, by rw [hml]; exact hcl⟩
          have HTk : Hid ((ndsL (vfP lb)).take (k + 1) = (ndsL (vfP lb)).take k ++ [⟨(T : Int), runsV d.m b.es⟩]) := hid13 (by rw [ndsL_take _ k b hPk, hbt, hbm, hT])
          have mk : IntKind.i64.wrap ((k : Int) + 1) = ((k + 1 : Nat) : Int) := by rw [IntKind.wrap_i64]; have := HN.out; omega
          obtain ⟨GK, hGK⟩ : ∃ GK, GK = gk := ⟨_, rfl⟩
          have HJ : Hid (k + GK = n ∧ GK = gk ∧ k < n) := ⟨by omega, hGK, by omega⟩
          obtain ⟨X0, hX0⟩ : ∃ X0, X0 = wr := ⟨_, rfl⟩
          have HIo := HI
          have HX0 := hid13 hX0
          rw [← hX0] at HI HIo ⊢
          have q1 := bl1 X0 (.cells #[.int .i64 (T : Int), .slice none 0 0] 53)
          have HT0 : Hid (TnV X0 (T : Int) (.slice none 0 0) ((runsV d.m b.es).take (cnt d.m 0)) (X0.alloc (.cells #[.int .i64 (T : Int), .slice none 0 0] 53))) := hid13 ⟨q1, new_16 _ _, by rw [show cnt d.m 0 = 0 from rfl, List.take_zero]; exact World.ownsRow_nil _ _ _ _⟩
          obtain ⟨N2, hN2⟩ : ∃ N2, N2 = 2 ^ T := ⟨_, rfl⟩
          have HN2 : Hid (N2 = 2 ^ T ∧ N2 ≤ 16777216) := hid13 ⟨hN2, by rw [hN2]; exact Nat.le_trans (Nat.pow_le_pow_right (by decide) HTT.out.2.1 : 2 ^ T ≤ 2 ^ 24) (by decide)⟩
          have hsh : (2 : Int) ^ T = (N2 : Int) := by rw [hN2]; push_cast; rfl
          have hsw : IntKind.i64.wrap (N2 : Int) = (N2 : Int) := by rw [IntKind.wrap_i64]; have := HN2.out.2; omega
          have hTn : ¬ (T : Int) < 0 := by omega
          have hT64 : (T : Int) < 64 := by have := HTT.out; omega
          obtain ⟨c1, c2, c3, c4⟩ := HCl.out _ HI.out.2
          clear hkD hd hx hxa hxt hxe hxm hxo hxs hxl r1 r2 r3 r4 hKo k1 k2 k3 k4 hvm hve hPk hb hbok hbmp hbm hbt hbe hdf hT hct hcl hml hmm hel hbel hwd hGK hk hX0 q1 hN2
          go_wp2_with fail
          clear c1 c2 c3 c4
          go_loopg [16] N2 (fun gk iv wr => ∃ (i : Nat) (vr : Value), i + gk = N2 ∧ iv = .int .i64 (i : Int) ∧ Hid (TnV X0 (T : Int) vr ((runsV d.m b.es).take (cnt d.m i)) wr))
          case atStart => exact ⟨0, _, by omega, rfl, HT0⟩
          case round =>
            clear HT0
            obtain ⟨i, vr, hi2, rfl, HN⟩ := hrel
            have HBw : Hid (Below w1.heap.size w1 wr) := hid13 (keepb HN.out.b HIo.out.2)
            obtain ⟨c1, c2, c3, c4⟩ := HCl.out _ HBw.out
            have mi : IntKind.i64.wrap ((i : Int) + 1) = ((i + 1 : Nat) : Int) := by rw [IntKind.wrap_i64]; have := HN2.out.2; omega
            by_cases hlt2 : (i : Int) < (N2 : Int)
            · have hi32 : i < 32 * d.m.length := by
                have h1 := HTT.out.2.2.2
                have h2 := HD.out.2.2.2.2.2.1
                have h3 := HN2.out.1
                omega
              have KI := is13 (.slice mo ml mc) d.m i wr (HXm.out.below HBw.out) hi32 (by have := HD.out; omega)
              have HG : Hid (i + gk = N2 ∧ i < N2 ∧ i < 32 * d.m.length) := ⟨hi2, by omega, hi32⟩
              obtain ⟨pb, hpb⟩ : ∃ pb, pb = plc d.m i := ⟨_, rfl⟩
              rw [← hpb] at KI
              have HPb := hid13 hpb
              clear hi2 hi32 hpb
              go_wp2_with fail
              refine KI.mono ?_
              rintro e w3 ⟨rfl, hw3⟩
              have hw3 := hw3.symm
              subst hw3
              clear KI c1 c2
              cases pb
              · have HS : Hid (cnt d.m (i + 1) = cnt d.m i) := hid13 (by
                  show cnt d.m i + (plc d.m i).toNat = _
                  rw [← HPb.out]; rfl)
                clear c3 c4
                go_wp2
                go_roundg (gk - 1)
                case measure => have := HG.out; omega
                case rel => exact ⟨i + 1, vr, by have := HG.out; omega, rfl, hid13 (by rw [HS.out]; exact HN.out)⟩
              · have hS : cnt d.m (i + 1) = cnt d.m i + 1 := by
                  show cnt d.m i + (plc d.m i).toNat = _
                  rw [← HPb.out]; rfl
                have hin := cnt_in d.m i HG.out.2.2 HPb.out.symm
                obtain ⟨j, hj⟩ : ∃ j, j = cnt d.m i := ⟨_, rfl⟩
                have hjm : j < mm := by rw [hj, ← HD.out.2.2.2.2.1, HD.out.2.2.2.2.2.2.2.2]; exact hin
                obtain ⟨⟨⟨eop, enn⟩, eu⟩, he⟩ : ∃ e, es[j]? = some e := ⟨_, List.getElem?_eq_getElem (by have := HD.out.2.2.1; omega)⟩
                obtain ⟨uo, un, uc, heu⟩ := HSl.out _ (List.mem_of_getElem? he)
                dsimp only at heu
                subst heu
                have hed : d.es[j]? = some (eop, enn) := by rw [← HD.out.2.1, List.getElem?_map, he]; rfl
                have heb := HDe.out.2.2 (eop, enn) (List.mem_of_getElem? hed)
                dsimp only at heb
                have hbe : b.es[j]? = some (lkX (D.map DB.a) (prX (d.en + (j : Int)) (eop, enn))) := by
                  rw [HD.out.2.2.2.1, List.getElem?_map, prE_get d.en d.es j _ hed]; rfl
                have hRt := runsV_at d.m b.es i _ HG.out.2.2 HPb.out.symm (by rw [← hj]; exact hbe)
                rw [← hS] at hRt
                obtain ⟨eg, ec', hee, -⟩ := own_some18 HXo.out (by omega)
                injection hee with he1 he2 he3
                subst he1
                obtain ⟨r0, r1, r2⟩ := rowE_get es j _ he
                have k0 := keepc HBw.out (own_at18 HXo.out r0).1
                have k1 := keepc HBw.out (own_at18 HXo.out r1).1
                have k2 := keepc HBw.out (own_at18 HXo.out r2).1
                dsimp only at k0 k1 k2
                have hLl : ((runsV d.m b.es).take (cnt d.m i)).length = j := by rw [List.length_take, runsV_len _ _ HD.out.2.2.2.2.2.2.2.2, HD.out.2.2.2.2.1]; omega
                obtain ⟨ro, rc, hvr⟩ := own_form HN.out.o
                rw [hLl] at hvr
                subst hvr
                have c6 := at_16 HN.out.n 1 _ rfl
                have wi : IntKind.u64.wrap (i : Int) = (i : Int) := by simp [IntKind.wrap, IntKind.bits, IntKind.signed]; have := HN2.out; have := HG.out; omega
                have hjmi : (j : Int) < (mm : Int) := by omega
                have HJm : Hid (j < mm ∧ mm ≤ 1048576 ∧ 0 ≤ enn ∧ enn ≤ 16777215) := ⟨hjm, by have := HD.out; omega, heb⟩
                have mj : IntKind.i64.wrap (d.en + (j : Int)) = d.en + (j : Int) := by rw [IntKind.wrap_i64]; have := HDe.out; have := HJm.out; omega
                have mn : IntKind.i64.wrap (d.en + (j : Int) + enn) = d.en + (j : Int) + enn := by rw [IntKind.wrap_i64]; have := HDe.out; have := HJm.out; omega
                have HLl := hid13 hLl
                have HRt := hid13 hRt
                have HS0 := hid13 (fun kid nn => TnS.new HN.out eop enn (.slice uo un uc) (.int .u64 (i : Int)) kid nn)
                obtain ⟨RS, hRS⟩ : ∃ RS, RS = (runsV d.m b.es).take (cnt d.m i) := ⟨_, rfl⟩
                rw [← hRS] at HLl HRt HS0
                clear hS hin hj hjm he hed heb hbe hRt he2 he3 r0 r1 r2 hLl hRS HN
                have HS2 := hid13 (HS0.out (.bool false) (.int .i64 enn))
                have x0 := at_16 HS2.out.x 0 _ rfl
                have x1 := at_16 HS2.out.x 1 _ rfl
                by_cases hop : eop = 3
                · subst hop
                  have HRr : Hid (((runsV d.m b.es).take (cnt d.m (i + 1))) = RS ++ [⟨mkW 0 (i : Int), true, fnB (D.map DB.a) (d.en + (j : Int) + enn)⟩]) := hid13 HRt.out
                  clear HRt
                  have f2 := at_16 HS2.out.r 2 _ rfl
                  have ff2 := fr_16 (j := 2) HS2.out.r
                  have HS3 := hid13 (HS0.out (.bool true) (.int .i64 enn))
                  obtain ⟨nn, hnn⟩ : ∃ nn, nn = fnB (D.map DB.a) (d.en + (j : Int) + enn) := ⟨_, rfl⟩
                  have KF := hid13 (fun X (h : Below w1.heap.size w1 X) => KFi.out X h (d.en + (j : Int) + enn))
                  rw [← hnn] at HRr KF
                  clear hnn
                  go_wp2_with fail
                  clear c3 c4 c6 k0 k1 k2 x0 x1 f2 ff2
                  refine qpw_region 13 (qpOk 13 13 (by decide) (fun N => by kernel_rfl) (by kernel_rfl) (by kernel_rfl) (by kernel_rfl) (by kernel_rfl)) (C := fun X => TnS X0 (T : Int) (.slice ro j rc) RS wr.heap.size (wr.heap.size + 1) 3 enn (.slice uo un uc) (.int .u64 (i : Int)) (.bool true) (.int .i64 enn) X) [some 97, some 98, some 99, some 100, some 101, some 102, some 103, some 104, some 105, some 106, some 107, some 108, some 109] [.slice (some ⟨g, 0, none⟩) n c, .slice (some ⟨g, 0, none⟩) n c, .int .i64 (k : Int), .pointer (some ⟨g, k * 5, none⟩), .pointer (some ⟨g, k * 5 + 3, none⟩), .int .i64 d.en, .int .i64 (j : Int), .int .i64 (d.en + (j : Int)), .pointer (some ⟨wr.heap.size, 1, none⟩), .int .i64 enn, .int .i64 (d.en + (j : Int) + enn), .int .i64 nn, .pointer (some ⟨(wr.heap.size + 1), 3, none⟩)] (by kernel_rfl) (HS3.out.below (Below.refl _ _).drew) ?walkq21 ?finq21
                  case walkq21 =>
                    refine qw_run (v := .slice (some ⟨g, 0, none⟩) n c) (by rfl) ?_ ?_
                    · (intro w9 hC; clear hC; go_simp; first | done | (simp; done) | (simp [*]; done) | omega | (simp; omega) | (rw [IntKind.wrap_i64]; omega) | (intro hx; omega) | rfl)
                    simp only [Act.put, List.setIfInBounds_toArray, List.set_cons_zero, List.set_cons_succ]
                    refine qw_run (v := .slice (some ⟨g, 0, none⟩) n c) (by rfl) ?_ ?_
                    · (intro w9 hC; clear hC; go_simp; first | done | (simp; done) | (simp [*]; done) | omega | (simp; omega) | (rw [IntKind.wrap_i64]; omega) | (intro hx; omega) | rfl)
                    simp only [Act.put, List.setIfInBounds_toArray, List.set_cons_zero, List.set_cons_succ]
                    refine qw_run (v := .int .i64 (k : Int)) (by rfl) ?_ ?_
                    · (intro w9 hC; clear hC; go_simp; first | done | (simp; done) | (simp [*]; done) | omega | (simp; omega) | (rw [IntKind.wrap_i64]; omega) | (intro hx; omega) | rfl)
                    simp only [Act.put, List.setIfInBounds_toArray, List.set_cons_zero, List.set_cons_succ]
                    refine qw_run (v := .pointer (some ⟨g, k * 5, none⟩)) (by rfl) ?_ ?_
                    · (intro w9 hC; clear hC; go_simp; first | done | (simp; done) | (simp [*]; done) | omega | (simp; omega) | (rw [IntKind.wrap_i64]; omega) | (intro hx; omega) | rfl)
                    simp only [Act.put, List.setIfInBounds_toArray, List.set_cons_zero, List.set_cons_succ]
                    refine qw_run (v := .pointer (some ⟨g, k * 5 + 3, none⟩)) (by rfl) ?_ ?_
                    · (intro w9 hC; clear hC; go_simp; first | done | (simp; done) | (simp [*]; done) | omega | (simp; omega) | (rw [IntKind.wrap_i64]; omega) | (intro hx; omega) | rfl)
                    simp only [Act.put, List.setIfInBounds_toArray, List.set_cons_zero, List.set_cons_succ]
                    refine qw_run (v := .int .i64 d.en) (by rfl) ?_ ?_
                    · (intro w9 hC; obtain ⟨-, -, y3, -⟩ := HCl.out w9 (keepb hC.t.b HIo.out.2); clear hC; go_simp; first | done | (simp; done) | (simp [*]; done) | omega | (simp; omega) | (rw [IntKind.wrap_i64]; omega) | (intro hx; omega) | rfl)
                    simp only [Act.put, List.setIfInBounds_toArray, List.set_cons_zero, List.set_cons_succ]
                    refine qw_run (v := .int .i64 (j : Int)) (by rfl) ?_ ?_
                    · (intro w9 hC; clear hC; go_simp; first | done | (simp; done) | (simp [*]; done) | omega | (simp; omega) | (rw [IntKind.wrap_i64]; omega) | (intro hx; omega) | rfl)
                    simp only [Act.put, List.setIfInBounds_toArray, List.set_cons_zero, List.set_cons_succ]
                    refine qw_run (v := .int .i64 (d.en + (j : Int))) (by rfl) ?_ ?_
                    · (intro w9 hC; clear hC; go_simp; first | done | (simp; done) | (simp [*]; done) | omega | (simp; omega) | (rw [IntKind.wrap_i64]; omega) | (intro hx; omega) | rfl)
                    simp only [Act.put, List.setIfInBounds_toArray, List.set_cons_zero, List.set_cons_succ]
                    refine qw_run (v := .pointer (some ⟨wr.heap.size, 1, none⟩)) (by rfl) ?_ ?_
                    · (intro w9 hC; clear hC; go_simp; first | done | (simp; done) | (simp [*]; done) | omega | (simp; omega) | (rw [IntKind.wrap_i64]; omega) | (intro hx; omega) | rfl)
                    simp only [Act.put, List.setIfInBounds_toArray, List.set_cons_zero, List.set_cons_succ]
                    refine qw_run (v := .int .i64 enn) (by rfl) ?_ ?_
                    · (intro w9 hC; have q1 := at_16 hC.x 1 _ rfl; clear hC; go_simp; first | done | (simp; done) | (simp [*]; done) | omega | (simp; omega) | (rw [IntKind.wrap_i64]; omega) | (intro hx; omega) | rfl)
                    simp only [Act.put, List.setIfInBounds_toArray, List.set_cons_zero, List.set_cons_succ]
                    refine qw_run (v := .int .i64 (d.en + (j : Int) + enn)) (by rfl) ?_ ?_
                    · (intro w9 hC; clear hC; go_simp; first | done | (simp; done) | (simp [*]; done) | omega | (simp; omega) | (rw [IntKind.wrap_i64]; omega) | (intro hx; omega) | rfl)
                    simp only [Act.put, List.setIfInBounds_toArray, List.set_cons_zero, List.set_cons_succ]
                    refine qw_call (v := .int .i64 nn) (f := 27) (args := #[.slice (some ⟨g, 0, none⟩) n c, .int .i64 (d.en + (j : Int) + enn)]) (by rfl) ?_ ?_ ?_
                    · (intro w9 hC; clear hC; go_simp; first | done | (simp; done) | rfl)
                    · exact fun w9 hC => (KF.out w9 (keepb hC.t.b HIo.out.2)).mono fun e w' ⟨he, hb⟩ => ⟨he, by rw [hb]; exact hC⟩
                    simp only [Act.put, List.setIfInBounds_toArray, List.set_cons_zero, List.set_cons_succ]
                    refine qw_run (v := .pointer (some ⟨(wr.heap.size + 1), 3, none⟩)) (by rfl) ?_ ?_
                    · (intro w9 hC; clear hC; go_simp; first | done | (simp; done) | (simp [*]; done) | omega | (simp; omega) | (rw [IntKind.wrap_i64]; omega) | (intro hx; omega) | rfl)
                    simp only [Act.put, List.setIfInBounds_toArray, List.set_cons_zero, List.set_cons_succ]
                    refine qw_nil ?_
                    simp only [putAll, Act.put, List.setIfInBounds_toArray, List.set_cons_zero, List.set_cons_succ]
                  case finq21 =>
                    intro Y hY
                    simp only [putAll, Act.put, List.setIfInBounds_toArray, List.set_cons_zero, List.set_cons_succ]
                    dsimp only [List.drop]
                    clear HS2 HS3 HS0 KF
                    have HYs := hid13 (hY.num (.int .i64 nn))
                    have f0 := at_16 hY.r 0 _ rfl
                    have f1 := at_16 hY.r 1 _ rfl
                    have f2 := at_16 hY.r 2 _ rfl
                    have f3 := at_16 hY.r 3 _ rfl
                    have ff3 := fr_16 (j := 3) hY.r
                    have d6 := at_16 hY.t.n 1 _ rfl
                    have g0 := at_16 HYs.out.r 0 _ rfl
                    have g1 := at_16 HYs.out.r 1 _ rfl
                    have g2 := at_16 HYs.out.r 2 _ rfl
                    have g3 := at_16 HYs.out.r 3 _ rfl
                    have g6 := at_16 HYs.out.t.n 1 _ rfl
                    have hne : ¬ X0.heap.size = wr.heap.size + 1 := by have := hY.l; omega
                    have hne2 : ¬ wr.heap.size + 1 = X0.heap.size := by have := hY.l; omega
                    have HSz : Hid ((Y.setCell ⟨wr.heap.size + 1, 3, none⟩ (.int .i64 nn)).heap.size = Y.heap.size) := hid13 (by simp)
                    have HS2 := HYs
                    have HS0 := HYs
                    clear hY
                    go_wp2_with (at_builtin; apply stopHere9)
                    refine (show wpList _ _ _ _ _ _ from ?_)
                    clear f0 f1 f2 f3 ff3 d6 g0 g1 g2 g3 g6 hne hne2
                    obtain ⟨V9, hV9⟩ : ∃ V9, V9 = Y.setCell ⟨wr.heap.size + 1, 3, none⟩ (.int .i64 nn) := ⟨_, rfl⟩
                    have HS9 := HYs
                    have sz9 := HSz.out
                    rw [← hV9] at HS9 sz9 ⊢
                    have b3 := bl1 V9 (.cells #[.int .u64 0, .int .u64 (i : Int), .bool true, .int .i64 nn] 50)
                    have hT9 := HS9.out.t.below b3
                    have ho := hT9.o
                    rw [HLl.out] at ho
                    refine wpList_append_lies _ rfl _ _ 51 rfl (X0.heap.size + 1) 50 i0 (.agg #[.int .u64 0, .int .u64 0, .bool false, .int .i64 0]) 4 32 Try.underlying51 hi hz0 hz1 hz2 rfl (by decide) _ _ _ rfl ho ⟨Y.heap.size, 0, none⟩ 1 1 [.int .u64 0, .int .u64 (i : Int), .bool true, .int .i64 nn] rfl rfl (by have h9 := newsN18 V9 (.int .u64 0) (.int .u64 (i : Int)) (.bool true) (.int .i64 nn) 50; rwa [sz9] at h9) (by intro u hu; simp at hu; rcases hu with rfl | rfl | rfl | rfl <;> rfl) (by decide) (by have := HJm.out; unfold maxLen; omega) (by have := HJm.out; omega) (by have h1 := lt_16 hT9.n; omega) _ rfl ?_
                    intro g9 cap9 w9 h1 h2 h3 h4
                    have hrw : rowN RS ++ [Value.int .u64 0, .int .u64 (i : Int), .bool true, .int .i64 nn] = rowN (RS ++ [⟨mkW 0 (i : Int), true, nn⟩]) := by
                      rw [rowN_app18, hI_mk 0 (i : Int) (by omega) (by omega), lI_mk 0 (i : Int) (by omega) (by have := HG.out; have := HN2.out; omega)]
                    rw [hrw] at h1
                    obtain ⟨hp9, y0, yf⟩ := HS9.out.t.push HLl.out b3 h1 h2
                    rw [← HRr.out] at hp9
                    have HP9 := hid13 hp9
                    clear hp9 h1 h2 h3 h4 hrw ho hT9 b3 sz9 HS9 hV9 HS0 HS2
                    go_wp2
                    go_roundg (gk - 1)
                    case measure => have := HG.out; omega
                    case rel => exact ⟨i + 1, _, by have := HG.out; omega, rfl, HP9⟩

                · have hob : (eop == 3) = false := by simpa using hop
                  have HRr : Hid (((runsV d.m b.es).take (cnt d.m (i + 1))) = RS ++ [⟨mkW 0 (i : Int), false, enn⟩]) := hid13 (by
                    rw [HRt.out]
                    unfold lkX prX
                    dsimp only
                    rw [hob]; rfl)
                  clear HRt hop
                  have d6 := at_16 HS2.out.t.n 1 _ rfl
                  have f0 := at_16 HS2.out.r 0 _ rfl
                  have f1 := at_16 HS2.out.r 1 _ rfl
                  have f2 := at_16 HS2.out.r 2 _ rfl
                  have f3 := at_16 HS2.out.r 3 _ rfl
                  have sz : ((wr.alloc (.cells #[.int .i64 eop, .int .i64 enn, .slice uo un uc] 67)).alloc (.cells #[.int .u64 0, .int .u64 (i : Int), .bool false, .int .i64 enn] 50)).heap.size = wr.heap.size + 1 + 1 := by rw [World.size_alloc, World.size_alloc]
                  have HSz := hid13 sz
                  clear sz
                  go_wp2_with (at_builtin; apply stopHere9)
                  refine (show wpList _ _ _ _ _ _ from ?_)
                  clear c3 c4 c6 k0 k1 k2 x0 x1 f0 f1 f2 f3 d6
                  obtain ⟨V9, hV9⟩ : ∃ V9, V9 = (wr.alloc (.cells #[.int .i64 eop, .int .i64 enn, .slice uo un uc] 67)).alloc (.cells #[.int .u64 0, .int .u64 (i : Int), .bool false, .int .i64 enn] 50) := ⟨_, rfl⟩
                  have HS9 := HS2
                  have sz9 := HSz.out
                  rw [← hV9] at HS9 sz9 ⊢
                  have b3 := bl1 V9 (.cells #[.int .u64 0, .int .u64 (i : Int), .bool false, .int .i64 enn] 50)
                  have hT9 := HS9.out.t.below b3
                  have ho := hT9.o
                  rw [HLl.out] at ho
                  refine wpList_append_lies _ rfl _ _ 51 rfl (X0.heap.size + 1) 50 i0 (.agg #[.int .u64 0, .int .u64 0, .bool false, .int .i64 0]) 4 32 Try.underlying51 hi hz0 hz1 hz2 rfl (by decide) _ _ _ rfl ho ⟨wr.heap.size + 1 + 1, 0, none⟩ 1 1 [.int .u64 0, .int .u64 (i : Int), .bool false, .int .i64 enn] rfl rfl (by have h9 := newsN18 V9 (.int .u64 0) (.int .u64 (i : Int)) (.bool false) (.int .i64 enn) 50; rwa [sz9] at h9) (by intro u hu; simp at hu; rcases hu with rfl | rfl | rfl | rfl <;> rfl) (by decide) (by have := HJm.out; unfold maxLen; omega) (by have := HJm.out; omega) (by have h1 := lt_16 hT9.n; omega) _ rfl ?_
                  intro g9 cap9 w9 h1 h2 h3 h4
                  have hrw : rowN RS ++ [Value.int .u64 0, .int .u64 (i : Int), .bool false, .int .i64 enn] = rowN (RS ++ [⟨mkW 0 (i : Int), false, enn⟩]) := by
                    rw [rowN_app18, hI_mk 0 (i : Int) (by omega) (by omega), lI_mk 0 (i : Int) (by omega) (by have := HG.out; have := HN2.out; omega)]
                  rw [hrw] at h1
                  obtain ⟨hp9, y0, yf⟩ := HS9.out.t.push HLl.out b3 h1 h2
                  rw [← HRr.out] at hp9
                  have HP9 := hid13 hp9
                  clear hp9 h1 h2 h3 h4 hrw ho hT9 b3 sz9 HS9 hV9 HS0 HS2
                  go_wp2
                  go_roundg (gk - 1)
                  case measure => have := HG.out; omega
                  case rel => exact ⟨i + 1, _, by have := HG.out; omega, rfl, HP9⟩
            · have hie : i = N2 := by omega
              have HN9 : Hid (TnV X0 (T : Int) vr (runsV d.m b.es) wr) := hid13 (by
                have h9 := HN.out
                rw [hie, HN2.out.1, HTT.out.2.2.1, List.take_of_length_le (by rw [runsV_len _ _ HD.out.2.2.2.2.2.2.2.2, HD.out.2.2.2.2.2.2.2.2]; exact Nat.le_refl _)] at h9
                exact h9)
              have hrl : (runsV d.m b.es).length ≤ 1048576 := by rw [runsV_len _ _ HD.out.2.2.2.2.2.2.2.2, HD.out.2.2.2.2.1]; have := HD.out; omega
              obtain ⟨rl, hrl2⟩ : ∃ rl, rl = (runsV d.m b.es).length := ⟨_, rfl⟩
              obtain ⟨ro, rc, hvr⟩ := own_form HN9.out.o
              rw [← hrl2] at hvr
              subst hvr
              have HRl : Hid (rl = (runsV d.m b.es).length) := hrl2
              have HLl : Hid (((ndsL (vfP lb)).take k).length = k) := hid13 (by rw [List.length_take]; unfold ndsL; rw [List.length_map, HPl.out]; have := HJ.out; omega)
              obtain ⟨lo, lc, hlv⟩ := own_form HIo.out.1.o
              rw [HLl.out] at hlv
              subst hlv
              have d0 := at_16 HN9.out.n 0 _ rfl
              have d1 := at_16 HN9.out.n 1 _ rfl
              clear hie hi2 hrl hrl2 HN c2 c3 c4
              go_wp2_with (at_builtin; apply stopHere9)
              refine (show wpList _ _ _ _ _ _ from ?_)
              have b3 := bl1 wr (.cells #[.int .i64 (T : Int), .slice ro rl rc] 53)
              have hb3 : Below X0.heap.size X0 (wr.alloc (.cells #[.int .i64 (T : Int), .slice ro rl rc] 53)) := keepb b3 HN9.out.b
              have ho := own_b13 hb3 HIo.out.1.o
              rw [HLl.out] at ho
              have hws : w1.heap.size ≤ X0.heap.size := HIo.out.2.size
              refine wpList_append_lies _ rfl _ _ 22 rfl w1.heap.size 53 j0 (.agg #[.int .i64 0, .slice none 0 0]) 2 32 Try.underlying22 ji jz0 jz1 jz2 rfl (by decide) _ _ _ rfl ho ⟨wr.heap.size, 0, none⟩ 1 1 [.int .i64 (T : Int), .slice ro rl rc] rfl rfl (newsD18 wr _ _ _ _ rfl) (two_one16 _ _ _ _) (by decide) (by have := HJ.out; have := HN.out; unfold maxLen; omega) (by have := HJ.out; have := HN.out; omega) (by have := hb3.size; omega) _ rfl ?_
              intro g9 cap9 w9 h1 h2 h3 h4
              have hN9 := HIo.out.1.push (u := .slice ro rl rc) (d := ⟨(T : Int), runsV d.m b.es⟩) hws (Below.refl _ _) (own_base16 HN9.out.o (by omega)) HN9.out.b b3 h2 (by rw [HLl.out]; exact h1)
              rw [← HTk.out] at hN9
              have HN8 := hid13 hN9
              have HB9 := hid13 ((keepb hb3 HIo.out.2).grown h2 (keepb hb3 HIo.out.2).size (fun z q => (HIo.out.1.o.lt z q).1))
              clear h1 h2 h3 h4 hN9 ho hb3 b3 hws d0 d1 c1
              go_wp2
              go_roundg (GK - 1)
              case measure => have := HJ.out; omega
              case rel => exact ⟨k + 1, _, by have := HJ.out; omega, rfl, hid13 ⟨HN8.out, HB9.out⟩⟩
        · have hke : k = n := by omega
          have HF : Hid (TrQ w F lb (.returned (.tuple #[u13, .int .i64 0])) wr) := hid13 ⟨u13, V, by rw [HEq.out], fun q => absurd HEq.out q, fun _ => by
            rw [HT.out]
            have h9 := HI.out.1
            rw [hke, List.take_of_length_le (by unfold ndsL; rw [List.length_map, HPl.out]; exact Nat.le_refl _)] at h9
            exact h9.base HB1.out.size, keepb HI.out.2 HB1.out⟩
          clear hke hk HI
          go_wp2
          exact bodyPost_ret (v := .tuple #[u13, .int .i64 0]) (by simp [results, Try.results10, go_sem]) rfl HF.out
  · have hvn := hv0 (.inl hE)
    subst hvn
    have HF : Hid (TrQ w F lb (.returned (.tuple #[.slice none 0 0, .int .i64 (vfR F lb).2.2])) w1) := hid13 ⟨_, [], rfl, fun _ => rfl, fun q => absurd q hE, hb1⟩
    have hne : ((vfR F lb).2.2 != 0) = true := by simpa using hE
    generalize (vfR F lb).1 = z1 at *
    generalize (vfR F lb).2.1 = z2 at *
    generalize (vfR F lb).2.2 = z3 at *
    clear hv0 hv1
    go_wp2
    exact bodyPost_ret (v := .tuple #[.slice none 0 0, .int .i64 z3]) (by simp [results, Try.results10, go_sem]) rfl HF.out
end Go.Proofs.Ytdpmhpmnkollaaa
namespace Go.Proofs.Ytdpmhpmnkollaaa
open Go.RowKit
set_option linter.unusedSimpArgs false
set_option linter.unusedVariables false
attribute [local go_sem] Oper.semAt_some

set_option maxRecDepth 20000 in
set_option maxHeartbeats 8000000 in
theorem small_any (v : Value) (L : List Nde) (w : World) (hv : RwD w v L) (hl : L.length ≤ 140737488355328) (hr : ∀ d ∈ L, d.r.length ≤ 140737488355328) :
    Calls Try.prog 6 #[v] w fun e w' => ∃ t, e = .returned (.bool t) ∧ (t = true → fewB L = true) ∧ w' = w := by
  have KF := few_any v L w hv hl hr
  obtain ⟨ao, c, rfl, hc, hrow⟩ := hv
  have HC := hid13 hrow
  have HF : Hid (fewB L = fewB L) := rfl
  have hl' : (L.length : Int) ≤ 140737488355328 := by omega
  generalize fewB L = fb at *
  clear hr hrow hl HF
  go_enter Try.func6, Try.ntmps6
  go_wp2_with fail
  go_loopw [3, 4] (fun nv kv wr => ∃ k n : Nat, k ≤ L.length ∧ k ≤ 500 ∧ nv = .int .i64 n ∧ kv = .int .i64 k ∧ n ≤ 20 * k ∧ wr = w) (fun _ kv _ => L.length - (intOf kv).toNat)
  case atStart => exact ⟨0, 0, by omega, by omega, rfl, rfl, by omega, rfl⟩
  case round =>
    obtain ⟨k, n, hk, hk5, rfl, rfl, hN, rfl⟩ := hrel
    have done : ∀ (Q : Unit → Prop), True := fun _ => trivial
    clear done
    by_cases hlt : (k : Int) < (L.length : Int)
    · by_cases h5 : (k : Int) < 500
      · have hks : k < L.length := by omega
        obtain ⟨b, off, rfl, hcell⟩ := HC.out.resolve_left (by rintro rfl; simp at hks)
        obtain ⟨vr, x0, x1, hR⟩ := hcell k _ (List.getElem?_eq_getElem hks)
        generalize L[k].b = m at *
        have m1 : wrap64 ((n : Int) + 20) = (n : Int) + 20 := by unfold wrap64; omega
        have m3 : wrap64 ((k : Int) + 1) = (k : Int) + 1 := by unfold wrap64; omega
        clear hcell x1 hR KF
        by_cases h16 : 16 < m
        · by_cases h24 : m ≤ 24
          · go_wp2
            go_roundw
            case rel => exact ⟨k + 1, n + 20, by omega, by omega, by push_cast; rfl, by push_cast; rfl, by omega, trivial⟩
            case measure => first | (simp [intOf]; omega) | (unfold intOf; simp; omega)
          · go_wp2
            go_roundw
            case rel => exact ⟨k + 1, n, by omega, by omega, by push_cast; rfl, by push_cast; rfl, by omega, trivial⟩
            case measure => first | (simp [intOf]; omega) | (unfold intOf; simp; omega)
        · go_wp2
          go_roundw
          case rel => exact ⟨k + 1, n, by omega, by omega, by push_cast; rfl, by push_cast; rfl, by omega, trivial⟩
          case measure => first | (simp [intOf]; omega) | (unfold intOf; simp; omega)
      · clear HC
        go_wp2_with fail
        refine KF.mono ?_
        rintro e w2 ⟨rfl, hw⟩
        subst hw
        cases fb with
        | false =>
          go_wp2
          go_ret
          first | exact ⟨_, rfl, by simp, rfl⟩ | (simp; done) | (simp; omega)
        | true =>
          by_cases hn : (n : Int) ≤ 60
          · go_wp2
            go_ret
            first | exact ⟨_, rfl, by simp, rfl⟩ | (simp; done) | (simp; omega)
          · go_wp2
            go_ret
            first | exact ⟨_, rfl, by simp, rfl⟩ | (simp; done) | (simp; omega)
    · clear HC
      go_wp2_with fail
      refine KF.mono ?_
      rintro e w2 ⟨rfl, hw⟩
      subst hw
      cases fb with
      | false =>
        go_wp2
        go_ret
        first | exact ⟨_, rfl, by simp, rfl⟩ | (simp; done) | (simp; omega)
      | true =>
        by_cases hn : (n : Int) ≤ 60
        · go_wp2
          go_ret
          first | exact ⟨_, rfl, by simp, rfl⟩ | (simp; done) | (simp; omega)
        · go_wp2
          go_ret
          first | exact ⟨_, rfl, by simp, rfl⟩ | (simp; done) | (simp; omega)
end Go.Proofs.Ytdpmhpmnkollaaa
