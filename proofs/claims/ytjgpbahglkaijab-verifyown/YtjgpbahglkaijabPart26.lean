/-
  Part 26 of the proof: 6 texts, one behind the other.
-/
import Derived.Test.YtjgpbahglkaijabPart18
import Derived.Test.YtjgpbahglkaijabPart24
import Derived.Test.YtjgpbahglkaijabPart25
import Derived.Test.YtjgpbahglkaijabPart19
import Derived.Test.YtjgpbahglkaijabPart17
import Derived.Test.YtjgpbahglkaijabPart21
namespace Go.Proofs.Ytjgpbahglkaijab
open Go.RowKit
set_option linter.unusedSimpArgs false
set_option linter.unusedVariables false

structure EpOk (L : List Nde) (o P : List Int) (n : Nat) : Prop where
  pl : P.length = L.length
  at' : ∀ (i k : Nat) (d : Nde), o[i]? = some (k : Int) → L[k]? = some d → P[k]? = some ((wsum L (o.take i) : Nat) : Int) ∧ wdsE d = 0 ∧ wsum L (o.take (i + 1)) = wsum L (o.take i) + szN d ∧ ∀ r ∈ d.r, r.k = true → ∃ (q : Nat) (y : Nat), r.n = (q : Int) ∧ q < L.length ∧ P[q]? = some (y : Int) ∧ wsum L (o.take i) < y
  sum : wsum L o = n
  le : ∀ i, wsum L (o.take i) ≤ n
theorem ep_ok {L : List Nde} {P : List Int} {n : Nat} (ok : NdsOk L) (hp : plG L (ordL L) (List.replicate L.length 0) 0 = some (P, n)) : EpOk L (ordL L) P n := by
  have ho := ord_ok ok
  have hin := ord_in ok
  have pl := pl_ok (ordL L) _ P 0 n ho.nd (fun k hk => by have := hin k hk; simp; omega) hp
  generalize ordL L = o at *
  have hs : wsum L o = n := by have := pl.n; omega
  refine ⟨by rw [pl.len]; simp, fun i k d hi hd => ?_, hs, fun i => ?_⟩
  · obtain ⟨hil, he⟩ := List.getElem?_eq_some_iff.mp hi
    have hsp : o = o.take i ++ (k : Int) :: o.drop (i + 1) := by
      rw [← he, List.getElem_cons_drop, List.take_append_drop]
    have hsz : L.getD (k : Int).toNat ⟨0, []⟩ = d := by rw [Int.toNat_natCast, List.getD_eq_getElem?_getD, hd]; rfl
    have nd := ok.2 k d hd
    have hb := pl.bits (k : Int) (List.mem_of_getElem? hi)
    rw [hsz] at hb
    have h1 := pl.at' _ _ _ hsp
    rw [Int.toNat_natCast, Nat.zero_add] at h1
    refine ⟨h1, ?_, ?_, fun r hr hk => ?_⟩
    · have hbb : bitsB d.b = true := by unfold bitsB; have := nd.b0; have := nd.b1; simp; omega
      unfold wdsE
      rw [if_pos hbb, if_pos nd.io, if_pos hb]
    · rw [List.take_succ_eq_append_getElem hil, wsum_app, he]
      show _ + (szN (L.getD (k : Int).toNat ⟨0, []⟩) + 0) = _
      rw [hsz]; omega
    · obtain ⟨a1, a2, a3⟩ := ok.lead hd hr hk
      have hin2 := ho.kid _ (k : Int) _ hsp d r (by rw [Int.toNat_natCast]; exact hd) hr hk
      obtain ⟨B1, B2, hB⟩ := List.append_of_mem hin2
      have hat := pl.at' (o.take i ++ (k : Int) :: B1) r.n B2 (by rw [List.append_assoc, List.cons_append, ← hB]; exact hsp)
      rw [Nat.zero_add, wsum_app] at hat
      have hs1 : wsum L ((k : Int) :: B1) = szN d + wsum L B1 := by
        show szN (L.getD (k : Int).toNat ⟨0, []⟩) + wsum L B1 = _
        rw [hsz]
      rw [hs1] at hat
      have := sz_pos d
      exact ⟨r.n.toNat, _, by omega, by omega, hat, by omega⟩
  · rw [← hs]
    conv => rhs; rw [← List.take_append_drop i o, wsum_app]
    omega
end Go.Proofs.Ytjgpbahglkaijab
namespace Go.Proofs.Ytjgpbahglkaijab
open Go.RowKit Go.Shelf
set_option linter.unusedSimpArgs false
set_option linter.unusedVariables false
attribute [local go_sem] Oper.semAt_some

theorem NdsOk.nokid {L : List Nde} (ok : NdsOk L) {k : Nat} {d : Nde} (hd : L[k]? = some d) (hb : d.b = 0) : ∀ r ∈ d.r, r.k = false := by
  intro r hr
  cases hk : r.k with
  | false => rfl
  | true =>
    have o := ok.2 k d hd
    have h1 := o.kid r hr hk
    have h2 := o.bz hb
    omega
set_option maxRecDepth 100000 in
set_option maxHeartbeats 16000000 in
theorem rcode16_any (F : Int) (v : Value) (L : List Nde) (most : Int) (w : World) (hv : RwD w v L) (hl : L.length ≤ 1000000) (hr : ∀ d ∈ L, d.r.length ≤ 1000000) :
    Calls Try.prog 7 #[.int .i64 F, v, .int .i64 most] w fun e w' => ∃ v', e = .returned (.tuple #[v', .int .i64 (codE F L most)]) ∧ w'.ownsRow w.heap.size 5 1 v' (codB F L most).length ((codB F L most).map cB) ∧ Below w.heap.size w w' := by
  obtain ⟨u0, hu, hy0, hy1, hy2⟩ := info13 Try.infoB13
  have KL := rplaces16_any F v L w hv hl hr
  have HLw := hid13 (lay_words (F := F) (L := L) (by omega) (fun d hd => by have := hr d hd; omega))
  have HLz := hid13 (fun h => lay_zero (F := F) (L := L) h)
  have HV := hid13 hv
  have HS : Hid (L.length ≤ 1000000 ∧ ∀ d ∈ L, d.r.length ≤ 1000000) := ⟨hl, hr⟩
  have HE : Hid (∀ R, layR F L = R → codE F L most = (if R.2 = 0 then (if min most 4194304 < 4 * (R.1.2.2 : Int) then 18 else 0) else R.2) ∧ codB F L most = if codE F L most = 0 then lyB L R.1.2.1 0 R.1.1 else []) := hid13 (fun R h => by subst h; exact ⟨rfl, rfl⟩)
  generalize codE F L most = cE at *
  generalize codB F L most = cB' at *
  generalize layR F L = R at *
  obtain ⟨⟨o, P, n⟩, e⟩ := R
  dsimp only at KL HLw HLz
  obtain ⟨ao, c, hvf, -, hrow⟩ := id hv
  have HRow := hid13 hrow
  subst hvf
  clear hv hr hl hrow
  go_enter Try.func7, Try.ntmps7
  go_wp2_with fail
  refine KL.mono ?_
  rintro e2 w2 ⟨vp, rfl, hp, hb⟩
  have HP := hid13 hp
  have HB := hid13 hb
  obtain ⟨pa, pc, hvp⟩ := own_form hp
  subst hvp
  clear KL hp hb
  by_cases h0 : e = 0
  · obtain ⟨ok, hck, hpl, hoo⟩ := HLz.out h0
    have hE := HE.out _ rfl
    dsimp only at hE
    rw [if_pos h0] at hE
    obtain ⟨b4, hb4⟩ : ∃ b4, b4 = 4 * (n : Int) := ⟨_, rfl⟩
    have m4' : wrap64 (4 * (n : Int)) = b4 := by unfold wrap64; have := HLw.out; omega
    have HH4 := hid13 hb4
    subst h0
    by_cases hc1 : most < b4
    · have HE2 : Hid (cE = 18 ∧ cB' = []) := by
        have h1 : cE = 18 := by rw [hE.1, if_pos (by omega)]
        exact ⟨h1, by rw [hE.2, h1]; rfl⟩
      clear hE HE HLz hb4 ok hck hpl hoo
      go_wp2
      refine bodyPost_ret (v := .tuple #[.slice none 0 0, .int .i64 18]) (by simp [results, Try.results7, go_sem]) rfl ⟨_, by rw [HE2.out.1], ?_, HB.out⟩
      rw [HE2.out.2]; exact World.ownsRow_nil _ _ _ _
    by_cases hc2 : 4194304 < b4
    · have HE2 : Hid (cE = 18 ∧ cB' = []) := by
        have h1 : cE = 18 := by rw [hE.1, if_pos (by omega)]
        exact ⟨h1, by rw [hE.2, h1]; rfl⟩
      clear hE HE HLz hb4 ok hck hpl hoo
      go_wp2
      refine bodyPost_ret (v := .tuple #[.slice none 0 0, .int .i64 18]) (by simp [results, Try.results7, go_sem]) rfl ⟨_, by rw [HE2.out.1], ?_, HB.out⟩
      rw [HE2.out.2]; exact World.ownsRow_nil _ _ _ _
    have hn : n ≤ 1048576 := by omega
    obtain ⟨hlo, hws⟩ := lay_ok ok hpl hn
    have hep := ep_ok ok hpl
    have hol := ord_len ok
    have hin := ord_in ok
    have HE2 : Hid (cE = 0 ∧ cB' = lyB L P 0 o) := by
      have h1 : cE = 0 := by rw [hE.1, if_neg (by omega)]
      exact ⟨h1, by rw [hE.2, if_pos h1]⟩
    have KO := rorder12_any _ L w2 (HV.out.below HB.out) ok HS.out.1 HS.out.2
    rw [← hoo] at hlo hws hep hol hin KO
    have HN : Hid (n ≤ 1048576 ∧ o.length ≤ L.length ∧ L.length ≤ 1000000 ∧ wsum L o = n) := ⟨hn, hol, HS.out.1, hws⟩
    have HLo := hid13 hlo
    have HEp := hid13 hep
    have HIn := hid13 hin
    have HOk := hid13 ok
    obtain ⟨nb, nof, e5, hnc⟩ := HRow.out.resolve_left (by rintro rfl; exact absurd ok.1 (by simp))
    subst e5
    have HNc := hid13 hnc
    clear hE HE HLz hb4 ok hck hpl hoo hlo hws hn hep hol hin hnc
    go_wp2_with fail
    refine KO.mono ?_
    rintro e3 w3 ⟨vo, rfl, ho3, hb3⟩
    obtain ⟨oa, oc, hvo⟩ := own_form ho3
    subst hvo
    have HRo := hid13 (own_rwx ho3)
    have HRp := hid13 ((own_rwx HP.out).below hb3)
    have HB3 := hid13 (keepb hb3 HB.out)
    clear KO ho3 hb3 HP HB m4' hc1 hc2
    go_wp2_with fail
    go_loopg [11, 13] o.length (fun g bv iv wr => ∃ (i : Nat) (code : List Nat) (ab : Option Addr) (bc : Nat), i + g = o.length ∧ bv = .slice ab code.length bc ∧ iv = .int .i64 (i : Int) ∧ Hid (wr.ownsRow w3.heap.size 5 1 (.slice ab code.length bc) code.length (code.map cB) ∧ Below w3.heap.size w3 wr ∧ code.length = 4 * wsum L (o.take i) ∧ code ++ lyB L P (wsum L (o.take i)) (o.drop i) = lyB L P 0 o ∧ LayOk L P (wsum L (o.take i)) (o.drop i)))
    case atStart => exact ⟨0, [], none, 0, by omega, rfl, rfl, hid13 ⟨World.ownsRow_nil _ _ _ _, Below.refl _ _, rfl, rfl, HLo.out⟩⟩
    case round =>
      obtain ⟨i, code, ab, bc, hk, rfl, rfl, HI⟩ := hrel
      by_cases hlt : (i : Int) < (o.length : Int)
      · have hli : i < o.length := by omega
        obtain ⟨x, hx⟩ : ∃ x, o[i]? = some x := ⟨o[i], by simp [hli]⟩
        obtain ⟨hx0, hx1⟩ := HIn.out x (List.mem_of_getElem? hx)
        obtain ⟨k, rfl⟩ : ∃ k : Nat, x = (k : Int) := ⟨x.toNat, by omega⟩
        have hkL : k < L.length := by omega
        obtain ⟨⟨db, dr⟩, hd⟩ : ∃ d, L[k]? = some d := ⟨L[k], by simp [hkL]⟩
        obtain ⟨p1, p2, p3, -⟩ := HEp.out.at' i k _ hx hd
        have hle := HEp.out.le i
        have hle1 := HEp.out.le (i + 1)
        have hdr := HS.out.2 _ (List.mem_of_getElem? hd)
        obtain ⟨y1, -, y3⟩ := ly_drop (P := P) hx hd (wsum L (o.take i))
        obtain ⟨z1, z2⟩ := y3 HI.out.2.2.2.2
        have hnk := HOk.out.nokid hd
        obtain ⟨vr, x0, x1, hR⟩ := HNc.out k _ hd
        dsimp only at x0 hR hdr
        have x0 := keepc HB3.out x0
        have x1 := keepc HB3.out x1
        have hR := hR.below HB3.out
        obtain ⟨oa', oc', eo, -, hor⟩ := HRo.out
        injection eo with eo1 eo2 eo3
        subst eo1 eo3
        obtain ⟨ob, oof, rfl, hoc⟩ := hor.resolve_left (by rintro rfl; simp at hli)
        have co : w3.cell? ⟨ob, oof + i, none⟩ = some (.int .i64 (k : Int)) := hoc i _ hx
        obtain ⟨pa', pc', ep, -, hpr⟩ := HRp.out
        injection ep with ep1 ep2 ep3
        subst ep1 ep3
        obtain ⟨pb, pof, rfl, hpc⟩ := hpr.resolve_left (by rintro rfl; simp at p1)
        have cp : w3.cell? ⟨pb, pof + k, none⟩ = some (.int .i64 ((wsum L (o.take i) : Nat) : Int)) := hpc k _ p1
        have hkP : (k : Int) < (P.length : Int) := by have := (List.getElem?_eq_some_iff.mp p1).1; omega
        have HZ : Hid (code.length = 4 * wsum L (o.take i) ∧ wsum L (o.take (i + 1)) = wsum L (o.take i) + szN ⟨db, dr⟩ ∧ wsum L (o.take (i + 1)) ≤ n ∧ (ndB P (wsum L (o.take i)) ⟨db, dr⟩).length = 4 * szN ⟨db, dr⟩) := ⟨HI.out.2.2.1, p3, hle1, ndB_len z1⟩
        have HY : Hid (code ++ (ndB P (wsum L (o.take i)) ⟨db, dr⟩ ++ lyB L P (wsum L (o.take (i + 1))) (o.drop (i + 1))) = lyB L P 0 o ∧ LayOk L P (wsum L (o.take (i + 1))) (o.drop (i + 1))) := by
          rw [p3]
          exact ⟨by rw [← y1]; exact HI.out.2.2.2.1, z2⟩
        have KD := fun W (h : Below w3.heap.size w3 W) => rlaid_any db vr dr P (.slice (some ⟨pb, pof, none⟩) P.length pc) (wsum L (o.take i)) W (hR.below h) (HRp.out.below h) z1 hdr (by have := HN.out; omega) hnk
        obtain ⟨S1, hS1⟩ : ∃ S1, S1 = wsum L (o.take (i + 1)) := ⟨_, rfl⟩
        rw [← hS1] at HZ HY
        have HS1 := hid13 hS1
        generalize wsum L (o.take i) = a at *
        generalize ndB P a ⟨db, dr⟩ = B at *
        generalize szN ⟨db, dr⟩ = sz at *
        have HA : Hid (∀ W, Below w3.heap.size w3 W → W.cell? ⟨ob, oof + i, none⟩ = some (.int .i64 (k : Int)) ∧ W.cell? ⟨nb, nof + k * 2, none⟩ = some (.int .i64 db) ∧ W.cell? ⟨nb, nof + k * 2 + 1, none⟩ = some vr ∧ W.cell? ⟨pb, pof + k, none⟩ = some (.int .i64 (a : Int)) ∧ Below w3.heap.size w3 W) := fun W h => ⟨keepc h co, keepc h x0, keepc h x1, keepc h cp, h⟩
        have hbl := HI.out.2.1.drew
        have KDd := KD _ hbl
        have hki : (k : Int) < (L.length : Int) := by omega
        have h63 : code.length + B.length ≤ maxLen := by have := HZ.out; have := HN.out; unfold maxLen; omega
        have h47 : (code.length + B.length) * 1 ≤ 140737488355328 := by have := HZ.out; have := HN.out; omega
        have HO9 : Hid (wr.drew.ownsRow w3.heap.size 5 1 (.slice ab code.length bc) code.length (code.map cB)) := HI.out.1.drew
        have mj : IntKind.i64.wrap ((i : Int) + 1) = (i : Int) + 1 := by rw [IntKind.wrap_i64]; have := HN.out; omega
        have HK : Hid (i + gk = o.length ∧ i < o.length) := ⟨hk, hli⟩
        have HW : Hid (w3.heap.size ≤ wr.drew.heap.size) := hbl.size
        obtain ⟨va, vc, hvr, -, -⟩ := id hR
        subst hvr
        obtain ⟨c0, c1, c2, c3, -⟩ := HA.out _ hbl
        clear hd hx hk hor hoc hpr hpc co x0 x1 cp p1 p2 p3 hle hle1 y1 y3 z1 z2 hnk hR eo2 ep2 KD HI hS1 hdr
        go_wp2_with fail
        go_region_held3 (fun w' => w'.cell? ⟨ob, oof + i, none⟩ = some (.int .i64 (k : Int)) ∧ w'.cell? ⟨nb, nof + k * 2, none⟩ = some (.int .i64 db) ∧ w'.cell? ⟨nb, nof + k * 2 + 1, none⟩ = some (.slice va dr.length vc) ∧ w'.cell? ⟨pb, pof + k, none⟩ = some (.int .i64 (a : Int)) ∧ Below w3.heap.size w3 w')
          (first
            | exact HA.out _ hbl
            | (obtain ⟨-, -, -, -, k9⟩ := ‹_ ∧ _ ∧ _ ∧ _ ∧ Below _ _ _›; exact HA.out _ (k9.grown hgrow k9.size (fun z hz => (hown.out.lt z hz).1)))
            | (obtain ⟨-, -, -, -, k9⟩ := ‹_ ∧ _ ∧ _ ∧ _ ∧ Below _ _ _›; exact HA.out _ (keepb hb4 k9))
            | (obtain ⟨-, -, -, -, k9⟩ := ‹_ ∧ _ ∧ _ ∧ _ ∧ Below _ _ _›; exact HA.out _ k9))
          (first
            | (go_at_call 15; refine KDd.mono ?_; rintro e4 w4 ⟨v4, rfl, ho4, hb4⟩; have hown := hid13 (own_b13 hb4 HO9.out); have hsrc := hid13 (own_rowA ho4); have hbase := hid13 (Nat.le_trans HW.out hb4.size))
            | (refine step_append_rowA16 rfl (.tmp 41) (.tmp 57) 25 rfl w3.heap.size 5 u0 (.int .u8 0) 1 1 Try.underlying25 hu hy0 hy1 hy2 rfl (by decide) _ code.length (code.map cB) rfl hown.out _ B.length (B.map cB) rfl hsrc.out (cB_one B) h63 h47 hbase.out ?_; intro o5 c5 w5 hown5 hgrow))
        obtain ⟨-, -, -, -, k9⟩ := ‹_ ∧ _ ∧ _ ∧ _ ∧ Below _ _ _›
        have HB5 := hid13 k9
        have HO5 := hid13 hown5
        clear k9 hown5 hgrow hown hsrc hbase ho4 hb4 KDd HA c0 c1 c2 c3 h63 h47 HO9 HW
        have HC5 : Hid ((code ++ B).length = 4 * wsum L (o.take (i + 1)) ∧ (code ++ B) ++ lyB L P (wsum L (o.take (i + 1))) (o.drop (i + 1)) = lyB L P 0 o ∧ LayOk L P (wsum L (o.take (i + 1))) (o.drop (i + 1))) := by
          rw [← HS1.out]
          refine ⟨by rw [List.length_append]; have := HZ.out; omega, by rw [List.append_assoc]; exact HY.out.1, HY.out.2⟩
        have eC : code.length + B.length = (code ++ B).length := by rw [List.length_append]
        replace HO5 : Hid (w5.ownsRow w3.heap.size 5 1 (.slice o5 (code ++ B).length c5) (code ++ B).length ((code ++ B).map cB)) := by
          show World.ownsRow _ _ _ _ _ _ _
          rw [← eC, List.map_append]; exact HO5.out
        rw [eC]
        generalize code ++ B = C0 at *
        clear eC HZ HY HS1
        go_wp2
        go_roundg (gk - 1)
        case measure => have := HK.out; omega
        case rel => exact ⟨i + 1, C0, _, _, by have := HK.out; omega, rfl, rfl, hid13 ⟨HO5.out, HB5.out, HC5.out⟩⟩
      · have hie : i = o.length := by omega
        have HFo := hid13 (own_base16 (base' := w.heap.size) HI.out.1 HB3.out.size)
        have HFb := hid13 (keepb HI.out.2.1 HB3.out)
        have HFd : Hid (code = cB') := by
          have h := HI.out.2.2.2.1
          rw [List.drop_eq_nil_of_le (by omega)] at h
          show _ = _
          rw [HE2.out.2, ← h]
          show code = code ++ []
          rw [List.append_nil]
        clear HI hk hie
        go_wp2
        refine bodyPost_ret (v := .tuple #[.slice ab code.length bc, .int .i64 0]) (by simp [results, Try.results7, go_sem]) rfl ⟨_, by rw [HE2.out.1], ?_, HFb.out⟩
        rw [← HFd.out]; exact HFo.out
  · have hE := HE.out _ rfl
    dsimp only at hE
    rw [if_neg h0] at hE
    have HE2 : Hid (cE = e ∧ cB' = []) := ⟨hE.1, by rw [hE.2, hE.1, if_neg h0]⟩
    have hne : (e != 0) = true := by simpa using h0
    clear hE HE HLz
    go_wp2
    refine bodyPost_ret (v := .tuple #[.slice none 0 0, .int .i64 e]) (by simp [results, Try.results7, go_sem]) rfl ⟨_, by rw [HE2.out.1], ?_, HB.out⟩
    rw [HE2.out.2]; exact World.ownsRow_nil _ _ _ _
end Go.Proofs.Ytjgpbahglkaijab
namespace Go.Proofs.Ytjgpbahglkaijab
open Go.RowKit
set_option linter.unusedSimpArgs false
set_option linter.unusedVariables false
attribute [local go_sem] Oper.semAt_some

end Go.Proofs.Ytjgpbahglkaijab
namespace Go.Proofs.Ytjgpbahglkaijab
open Go.RowKit Go.Shelf
set_option linter.unusedSimpArgs false
set_option linter.unusedVariables false
attribute [local go_sem] Oper.semAt_some

theorem wdB_lt (o k : Nat) (m : List (BitVec 32)) : ∀ b ∈ wdB o k m, b < 256 := by
  intro b hb
  unfold wdB at hb
  obtain ⟨x, -, hx⟩ := List.mem_flatMap.mp hb
  exact by4_lt _ x.isLt b hx
theorem rnB_lt (P : List Int) : ∀ (l : List Rn) (p : Nat), ∀ b ∈ rnB P p l, b < 256
  | [], p, b, h => by cases h
  | r :: l, p, b, h => by
    rcases List.mem_append.mp h with h | h
    · exact wdB_lt _ _ _ b h
    · exact rnB_lt P l _ b h
theorem ndB_lt (P : List Int) (a : Nat) (d : Nde) : ∀ b ∈ ndB P a d, b < 256 := by
  intro b h
  unfold ndB at h
  split at h
  · exact rnB_lt _ _ _ b h
  · rcases List.mem_append.mp h with h | h
    · exact wdB_lt _ _ _ b h
    · rcases List.mem_append.mp h with h | h
      · exact wdB_lt _ _ _ b h
      · exact rnB_lt _ _ _ b h
theorem lyB_lt (L : List Nde) (P : List Int) : ∀ (o : List Int) (a : Nat), ∀ b ∈ lyB L P a o, b < 256
  | [], a, b, h => by cases h
  | k :: o, a, b, h => by
    rcases List.mem_append.mp h with h | h
    · exact ndB_lt _ _ _ b h
    · exact lyB_lt L P o _ b h
theorem codB_lt (F : Int) (L : List Nde) (most : Int) : ∀ b ∈ codB F L most, b < 256 := by
  unfold codB
  split
  · exact lyB_lt _ _ _ _
  · intro b h; cases h
theorem cod_len {F : Int} {L : List Nde} {most : Int} (h : codE F L most = 0) : (codB F L most).length ≤ 4194304 ∧ ((codB F L most).length : Int) ≤ most ∧
    (∀ m, ((codB F L most).length : Int) ≤ m → codE F L m = 0 ∧ codB F L m = codB F L most) ∧ (∀ m, m < ((codB F L most).length : Int) → codE F L m = 18 ∧ codB F L m = []) := by
  have h' := h
  unfold codE at h
  by_cases h0 : (layR F L).2 = 0
  · rw [if_pos h0] at h
    by_cases hc : min most 4194304 < 4 * ((layR F L).1.2.2 : Int)
    · rw [if_pos hc] at h; cases h
    · obtain ⟨ok, hck, hpl, hoo⟩ := lay_zero h0
      obtain ⟨hlo, hws⟩ := lay_ok ok hpl (by omega)
      rw [← hoo] at hlo hws
      have hB : codB F L most = lyB L (layR F L).1.2.1 0 (layR F L).1.1 := by unfold codB; rw [if_pos h']
      have hlen := lyB_len hlo
      rw [← hB, hws] at hlen
      refine ⟨by omega, by omega, fun m hm => ?_, fun m hm => ?_⟩
      · have e : codE F L m = 0 := by unfold codE; rw [if_pos h0, if_neg (by omega)]
        exact ⟨e, by rw [hB]; unfold codB; rw [if_pos e]⟩
      · have e : codE F L m = 18 := by unfold codE; rw [if_pos h0, if_pos (by omega)]
        exact ⟨e, by unfold codB; rw [if_neg (by omega)]⟩
  · rw [if_neg h0] at h; exact absurd h h0
end Go.Proofs.Ytjgpbahglkaijab
namespace Go.Proofs.Ytjgpbahglkaijab
open Go.RowKit
set_option linter.unusedSimpArgs false
set_option linter.unusedVariables false
attribute [local go_sem] Oper.semAt_some

set_option maxRecDepth 100000 in
set_option maxHeartbeats 8000000 in
theorem same_any16 (v1 v2 : Value) (L : List Nde) (w : World) (h1 : RwD w v1 L) (h2 : RwD w v2 L) (hl : L.length ≤ 1000000) (hr : ∀ d ∈ L, d.r.length ≤ 1000000) :
    Calls Try.prog 12 #[v1, v2] w fun e w' => e = .returned (.bool true) ∧ Below w.heap.size w w' := by
  obtain ⟨ao, c, rfl, -, hrow⟩ := h1
  obtain ⟨ao2, c2, rfl, -, hrow2⟩ := h2
  have HC := hid13 hrow
  have HC2 := hid13 hrow2
  have HL := hid13 hr
  have HB := hid13 (Below.refl w.heap.size w)
  clear hrow hrow2 hr
  go_enter Try.func12, Try.ntmps12
  go_wp2_with fail
  go_loopg [5] L.length (fun g iv wr => ∃ k : Nat, k + g = L.length ∧ iv = .int .i64 (k : Int) ∧ Hid (Below w.heap.size w wr))
  case atStart => exact ⟨0, by omega, rfl, HB⟩
  case round =>
    clear HB
    obtain ⟨k, hk, rfl, HB⟩ := hrel
    by_cases hlt : (k : Int) < (L.length : Int)
    · have hks : k < L.length := by omega
      obtain ⟨b, off, rfl, hcell⟩ := HC.out.resolve_left (by rintro rfl; simp at hks)
      obtain ⟨b2, off2, rfl, hcell2⟩ := HC2.out.resolve_left (by rintro rfl; simp at hks)
      obtain ⟨⟨db, dr⟩, hd⟩ : ∃ d, L[k]? = some d := ⟨_, List.getElem?_eq_getElem hks⟩
      obtain ⟨vr, x0, x1, hR⟩ := hcell k _ hd
      obtain ⟨vr2, y0, y1, hR2⟩ := hcell2 k _ hd
      have hdr := HL.out _ (List.mem_of_getElem? hd)
      dsimp only at x0 y0 hR hR2 hdr
      obtain ⟨va, vc, rfl, -, hrr⟩ := hR
      obtain ⟨va2, vc2, rfl, -, hrr2⟩ := hR2
      have HR := hid13 hrr
      have HR2 := hid13 hrr2
      have HX1 := hid13 x1
      have HY1 := hid13 y1
      have x0 := keepc HB.out x0
      have y0 := keepc HB.out y0
      have x1 := keepc HB.out x1
      have y1 := keepc HB.out y1
      have HB2 := hid13 HB.out.drew
      obtain ⟨G, hG⟩ : ∃ G, G = gk := ⟨_, rfl⟩
      have HJ : Hid (k + G = L.length ∧ k < L.length ∧ G = gk) := ⟨by omega, by omega, hG⟩
      have mk : IntKind.i64.wrap ((k : Int) + 1) = (k : Int) + 1 := by rw [IntKind.wrap_i64]; omega
      clear hcell hcell2 hd hrr hrr2 hG hk
      go_wp2_with fail
      go_region
      go_wp2_with fail
      go_loopg [6] dr.length (fun g jv wr2 => ∃ j : Nat, j + g = dr.length ∧ jv = .int .i64 (j : Int) ∧ Hid (Below w.heap.size w wr2))
      case atStart => exact ⟨0, by omega, rfl, HB2⟩
      case round =>
        clear HB2 x0 y0 x1 y1
        obtain ⟨j, hj, rfl, HB3⟩ := hrel
        have x1 := keepc HB3.out HX1.out
        have y1 := keepc HB3.out HY1.out
        by_cases hlt3 : (j : Int) < (dr.length : Int)
        · have hjs : j < dr.length := by omega
          obtain ⟨rb, rof, rfl, hrc⟩ := HR.out.resolve_left (by rintro rfl; simp at hjs)
          obtain ⟨rb2, rof2, rfl, hrc2⟩ := HR2.out.resolve_left (by rintro rfl; simp at hjs)
          obtain ⟨r, hr⟩ : ∃ r, dr[j]? = some r := ⟨_, List.getElem?_eq_getElem hjs⟩
          obtain ⟨r0, r1, r2, r3⟩ := hrc j r hr
          obtain ⟨s0, s1, s2, s3⟩ := hrc2 j r hr
          have r0 := keepc HB3.out r0
          have r1 := keepc HB3.out r1
          have r2 := keepc HB3.out r2
          have r3 := keepc HB3.out r3
          have s0 := keepc HB3.out s0
          have s1 := keepc HB3.out s1
          have s2 := keepc HB3.out s2
          have s3 := keepc HB3.out s3
          have HB4 := hid13 HB3.out.drew
          have mj : IntKind.i64.wrap ((j : Int) + 1) = (j : Int) + 1 := by rw [IntKind.wrap_i64]; omega
          have HK : Hid (j + gk = dr.length ∧ j < dr.length) := ⟨hj, hjs⟩
          clear hrc hrc2 hr hj
          go_wp2_with fail
          go_region
          go_wp2
          go_roundg (gk - 1)
          case measure => have := HK.out; omega
          case rel => exact ⟨j + 1, by have := HK.out; omega, rfl, HB4⟩
        · clear hj
          go_wp2
          go_roundg (G - 1)
          case measure => have := HJ.out; omega
          case rel => exact ⟨k + 1, by have := HJ.out; omega, rfl, HB3⟩
    · go_wp2
      go_ret
      exact ⟨rfl, HB.out⟩
end Go.Proofs.Ytjgpbahglkaijab
namespace Go.Proofs.Ytjgpbahglkaijab
open Go.RowKit Go.Shelf
set_option linter.unusedSimpArgs false
set_option linter.unusedVariables false
attribute [local go_sem] Oper.semAt_some

structure XoO (w V0 W : World) (x1 x2 : Nat) (v : Value) (V : List Value) (L : List Nde) : Prop where
  b : Below w.heap.size w W
  k : ∀ z ob, V0.heap[z]? = some ob → (z < x1 ∨ x2 ≤ z) → W.heap[z]? = some ob
  s : V0.heap.size ≤ W.heap.size
  n : NdO W x1 v V L
  na : ∀ z, v.ownBlock = some z → x1 ≤ z ∧ z < x2
  nr : ∀ (j : Nat) (u : Value) (z : Nat), V[j]? = some u → u.ownBlock = some z → (x1 ≤ z ∧ z < x2) ∨ V0.heap.size ≤ z
  x : w.heap.size ≤ x1 ∧ x1 ≤ x2 ∧ x2 ≤ V0.heap.size
section
variable {w V0 W W' : World} {x1 x2 : Nat} {v : Value} {V : List Value} {L : List Nde}
theorem XoO.below (h : XoO w V0 W x1 x2 v V L) (hb : Below W.heap.size W W') : XoO w V0 W' x1 x2 v V L :=
  ⟨keepb hb h.b, fun z ob h1 h2 => (hb.block z (Array.getElem?_eq_some_iff.1 (h.k z ob h1 h2)).1).trans (h.k z ob h1 h2), Nat.le_trans h.s hb.size, h.n.below hb, h.na, h.nr, h.x⟩
theorem XoO.node (h : XoO w V0 W x1 x2 v V L) {i : Nat} {d : Nde} (hd : L[i]? = some d) : ∃ g c u, v = .slice (some ⟨g, 0, none⟩) L.length c ∧ V[i]? = some u ∧ W.cell? ⟨g, i * 2 + 1, none⟩ = some u ∧ W.frozen? ⟨g, i * 2 + 1, none⟩ = false ∧ W.ownsRow x1 44 4 u d.r.length (rowN d.r) := by
  have hil := (List.getElem?_eq_some_iff.mp hd).1
  obtain ⟨g, c, hv, -⟩ := own_some18 h.n.o (by omega)
  have hiv : i < V.length := by rw [h.n.l]; exact hil
  have hu : V[i]? = some V[i] := List.getElem?_eq_getElem hiv
  obtain ⟨-, r2⟩ := rowD_get L V i d _ hd hu
  have ho := h.n.o
  rw [hv] at ho
  obtain ⟨a, b⟩ := own_at18 ho r2
  exact ⟨g, c, _, hv, hu, a, b, h.n.r i d _ hd hu⟩
theorem XoO.put (h : XoO w V0 W x1 x2 v V L) {i k g c : Nat} {d : Nde} (hd : L[i]? = some d) (hu : V[i]? = some (.slice (some ⟨g, 0, none⟩) d.r.length c)) (hk : k < d.r.length) (r : Rn) :
    XoO w V0 ((((W.setCell ⟨g, k * 4, none⟩ (.int .u64 (hI r.f))).setCell ⟨g, k * 4 + 1, none⟩ (.int .u64 (lI r.f))).setCell ⟨g, k * 4 + 2, none⟩ (.bool r.k)).setCell ⟨g, k * 4 + 3, none⟩ (.int .i64 r.n)) x1 x2 v V (L.set i ⟨d.b, d.r.set k r⟩) := by
  have hil := (List.getElem?_eq_some_iff.mp hd).1
  have hx := h.x
  have hs := h.s
  have hr := h.n.r i d _ hd hu
  have hg := h.nr i _ g hu rfl
  have far : ∀ z, z ≠ g → ((((W.setCell ⟨g, k * 4, none⟩ (.int .u64 (hI r.f))).setCell ⟨g, k * 4 + 1, none⟩ (.int .u64 (lI r.f))).setCell ⟨g, k * 4 + 2, none⟩ (.bool r.k)).setCell ⟨g, k * 4 + 3, none⟩ (.int .i64 r.n)).heap[z]? = W.heap[z]? := fun z hz => (far_16 hz).trans ((far_16 hz).trans ((far_16 hz).trans (far_16 hz)))
  have hgw : w.heap.size ≤ g := by rcases hg with q | q <;> omega
  obtain ⟨cs, hcs⟩ := own_typed18 hr g rfl
  have hvn : v.ownBlock ≠ some g := own_not18 h.n.o hcs (by decide)
  have hrow : ((((rowN d.r).set (k * 4) (.int .u64 (hI r.f))).set (k * 4 + 1) (.int .u64 (lI r.f))).set (k * 4 + 2) (.bool r.k)).set (k * 4 + 3) (.int .i64 r.n) = rowN (d.r.set k r) := by
    clear hcs far hr hu
    have : ∀ (l : List Rn) (k : Nat), k < l.length → ((((rowN l).set (k * 4) (.int .u64 (hI r.f))).set (k * 4 + 1) (.int .u64 (lI r.f))).set (k * 4 + 2) (.bool r.k)).set (k * 4 + 3) (.int .i64 r.n) = rowN (l.set k r) := by
      intro l
      induction l with
      | nil => intro k hk; simp at hk
      | cons a l ih =>
        intro k hk
        have e : ∀ (a : Rn) (l : List Rn), rowN (a :: l) = .int .u64 (hI a.f) :: .int .u64 (lI a.f) :: .bool a.k :: .int .i64 a.n :: rowN l := fun a l => by unfold rowN; rw [List.flatMap_cons]; rfl
        cases k with
        | zero => rw [List.set_cons_zero, e, e]; rfl
        | succ k =>
          have := ih k (by simpa using hk)
          rw [List.set_cons_succ, e, e, ← this, show (k + 1) * 4 = k * 4 + 1 + 1 + 1 + 1 by omega]
          rfl
    exact this d.r k hk
  have hown := own_put18 (own_put18 (own_put18 (own_put18 hr (.int .u64 (hI r.f)) (j := k * 4) (by omega)) (.int .u64 (lI r.f)) (j := k * 4 + 1) (by omega)) (.bool r.k) (j := k * 4 + 2) (by omega)) (.int .i64 r.n) (j := k * 4 + 3) (by omega)
  rw [hrow] at hown
  refine ⟨?_, fun z ob h1 h2 => ?_, by simp; exact hs, ⟨?_, by rw [List.length_set]; exact h.n.l, fun j e u q1 q2 => ?_, h.n.d⟩, h.na, h.nr, h.x⟩
  · exact (((h.b.setCell (p := ⟨g, _, none⟩) hgw _).setCell (p := ⟨g, _, none⟩) hgw _).setCell (p := ⟨g, _, none⟩) hgw _).setCell (p := ⟨g, _, none⟩) hgw _
  · have hz : z < V0.heap.size := (Array.getElem?_eq_some_iff.1 h1).1
    exact (far z (by omega)).trans (h.k z ob h1 h2)
  · have e : rowD (L.set i ⟨d.b, d.r.set k r⟩) V = rowD L V := by
      have : ∀ (L : List Nde) (V : List Value) (i : Nat), L[i]? = some d → rowD (L.set i ⟨d.b, d.r.set k r⟩) V = rowD L V := by
        intro L
        induction L with
        | nil => intro V i h; simp at h
        | cons a L ih =>
          intro V i h
          cases V with
          | nil => cases i <;> rfl
          | cons y V =>
            cases i with
            | zero => simp at h; subst h; rfl
            | succ i =>
              have := ih V i (by simpa using h)
              show _ :: _ :: rowD (L.set i _) V = _
              rw [this]; rfl
      exact this L V i hd
    rw [e, List.length_set]
    exact own_keep18 h.n.o (fun z hz => far z (by rintro rfl; exact hvn hz))
  · by_cases hji : j = i
    · subst hji
      rw [hu] at q2
      injection q2 with q2
      subst q2
      rw [List.getElem?_set_self hil] at q1
      injection q1 with q1
      subst q1
      dsimp only
      rw [List.length_set]
      exact hown
    · rw [List.getElem?_set_ne (Ne.symm hji)] at q1
      refine own_keep18 (h.n.r j e u q1 q2) (fun z hz => far z ?_)
      rintro rfl
      exact hji (h.n.d j i u _ z q2 hu hz rfl)
theorem XoO.grow (h : XoO w V0 W x1 x2 v V L) {i gv c : Nat} {d : Nde} {u u' : Value} {r : Rn} (hd : L[i]? = some d) (hu : V[i]? = some u) (hv : v = .slice (some ⟨gv, 0, none⟩) L.length c) (ho : W'.ownsRow x1 44 4 u' (d.r.length + 1) (rowN (d.r ++ [r]))) (hg : W.grownBy W' u.ownBlock) (hat : ∀ z, u'.ownBlock = some z → u.ownBlock = some z ∨ z = W.heap.size) :
    XoO w V0 (W'.setCell ⟨gv, i * 2 + 1, none⟩ u') x1 x2 v (V.set i u') (L.set i ⟨d.b, d.r ++ [r]⟩) := by
  have hil := (List.getElem?_eq_some_iff.mp hd).1
  have hx := h.x
  have hs := h.s
  have hr := h.n.r i d _ hd hu
  have hna := h.na gv (by rw [hv]; rfl)
  obtain ⟨cs, hcs⟩ := own_typed18 h.n.o gv (by rw [hv]; rfl)
  have hgvW := lt_16 hcs
  have hun : u.ownBlock ≠ some gv := own_not18 hr hcs (by decide)
  have hu'n : u'.ownBlock ≠ some gv := fun q => by
    rcases hat gv q with q | q
    · exact hun q
    · omega
  have kp : ∀ z, z < W.heap.size → u.ownBlock ≠ some z → z ≠ gv → (W'.setCell ⟨gv, i * 2 + 1, none⟩ u').heap[z]? = W.heap[z]? := fun z h1 h2 h3 => (far_16 h3).trans (hg.block z h1 (fun q => h2 q.symm))
  have hoN : W'.ownsRow x1 39 2 v L.length (rowD L V) := own_keep18 h.n.o (fun z hz => by
    rw [hv] at hz
    have hz : gv = z := by simpa [Value.ownBlock] using hz
    subst hz
    exact hg.block gv hgvW (fun q => hun q.symm))
  have hrow : (rowD L V).set (i * 2 + 1) u' = rowD (L.set i ⟨d.b, d.r ++ [r]⟩) (V.set i u') := by
    have : ∀ (L : List Nde) (V : List Value) (i : Nat), L[i]? = some d → (rowD L V).set (i * 2 + 1) u' = rowD (L.set i ⟨d.b, d.r ++ [r]⟩) (V.set i u') := by
      intro L
      induction L with
      | nil => intro V i h; simp at h
      | cons a L ih =>
        intro V i h
        cases V with
        | nil => cases i <;> rfl
        | cons y V =>
          cases i with
          | zero => simp at h; subst h; rfl
          | succ i =>
            have := ih V i (by simpa using h)
            rw [show (i + 1) * 2 + 1 = (i * 2 + 1) + 2 by omega]
            show _ :: _ :: (rowD L V).set (i * 2 + 1) u' = _
            rw [this]; rfl
    exact this L V i hd
  have hil' : i < V.length := by rw [h.n.l]; exact hil
  refine ⟨?_, fun z ob h1 h2 => ?_, by have := hg.size; simp; omega, ⟨?_, by rw [List.length_set, List.length_set]; exact h.n.l, fun j e y q1 q2 => ?_, fun j k x y z q1 q2 q3 q4 => ?_⟩, h.na, fun j y z q1 q2 => ?_, h.x⟩
  · exact (h.b.grown hg h.b.size (fun z q => by have := (hr.lt z q).1; omega)).setCell (p := ⟨gv, _, none⟩) (by show w.heap.size ≤ gv; omega) _
  · have hz : z < V0.heap.size := (Array.getElem?_eq_some_iff.1 h1).1
    refine (kp z (by omega) (fun q => ?_) (by omega)).trans (h.k z ob h1 h2)
    have := h.nr i u z hu q
    omega
  · rw [← hrow, List.length_set]
    rw [hv] at hoN ⊢
    exact own_put18 hoN u' (by omega)
  · by_cases hji : j = i
    · subst hji
      rw [List.getElem?_set_self hil'] at q2
      injection q2 with q2
      subst q2
      rw [List.getElem?_set_self hil] at q1
      injection q1 with q1
      subst q1
      dsimp only
      rw [List.length_append, List.length_singleton]
      exact own_keep18 ho (fun z hz => far_16 (by rintro rfl; exact hu'n hz))
    · rw [List.getElem?_set_ne (Ne.symm hji)] at q1 q2
      have hrj := h.n.r j e y q1 q2
      refine own_keep18 hrj (fun z hz => kp z (hrj.lt z hz).2 (fun q => hji (h.n.d j i y u z q2 hu hz q)) ?_)
      rintro rfl
      exact own_not18 hrj hcs (by decide) hz
  · have old : ∀ (j : Nat) (y : Value), V[j]? = some y → y.ownBlock = some z → z < W.heap.size := fun j y q1 q2 => by
      have hjl : j < L.length := by rw [← h.n.l]; exact (List.getElem?_eq_some_iff.mp q1).1
      exact ((h.n.r j L[j] y (List.getElem?_eq_getElem hjl) q1).lt z q2).2
    by_cases hji : j = i
    · by_cases hki : k = i
      · omega
      · subst hji
        rw [List.getElem?_set_self hil'] at q1
        injection q1 with q1
        subst q1
        rw [List.getElem?_set_ne (Ne.symm hki)] at q2
        rcases hat z q3 with q | q
        · exact h.n.d j k u y z hu q2 q q4
        · have := old k y q2 q4; omega
    · rw [List.getElem?_set_ne (Ne.symm hji)] at q1
      by_cases hki : k = i
      · subst hki
        rw [List.getElem?_set_self hil'] at q2
        injection q2 with q2
        subst q2
        rcases hat z q4 with q | q
        · exact h.n.d j k x u z q1 hu q3 q
        · have := old j x q1 q3; omega
      · rw [List.getElem?_set_ne (Ne.symm hki)] at q2
        exact h.n.d j k x y z q1 q2 q3 q4
  · by_cases hji : j = i
    · subst hji
      rw [List.getElem?_set_self hil'] at q1
      injection q1 with q1
      subst q1
      rcases hat z q2 with q | q
      · exact h.nr j u z hu q
      · exact .inr (by omega)
    · rw [List.getElem?_set_ne (Ne.symm hji)] at q1
      exact h.nr j y z q1 q2
end
end Go.Proofs.Ytjgpbahglkaijab
