/-
  Part 26 of the proof: 10 texts, one behind the other.
-/
import Derived.Test.YtdpmhpmnkollaaaPart19
import Derived.Test.YtdpmhpmnkollaaaPart24
import Derived.Test.YtdpmhpmnkollaaaPart25
import Derived.Test.YtdpmhpmnkollaaaPart17
import Derived.Test.YtdpmhpmnkollaaaPart21
import Derived.Test.YtdpmhpmnkollaaaPart6
import Derived.Deep.RegionHeld3
import Derived.Deep.AppendLies
import Derived.Laws.AppendOwnNone
import Derived.Test.YtdpmhpmnkollaaaPart5
namespace Go.Proofs.Ytdpmhpmnkollaaa
open Go.RowKit
set_option linter.unusedSimpArgs false
set_option linter.unusedVariables false

structure EpOk (L : List Nde) (o P : List Int) (n : Nat) : Prop where
  pl : P.length = L.length
  at' : ∀ (i k : Nat) (d : Nde), o[i]? = some (k : Int) → L[k]? = some d → P[k]? = some ((wsum L (o.take i) : Nat) : Int) ∧ wdsE d = 0 ∧ wsum L (o.take (i + 1)) = wsum L (o.take i) + szN d ∧ ∀ r ∈ d.r, r.k = true → ∃ (q : Nat) (y : Nat), r.n = (q : Int) ∧ q < L.length ∧ P[q]? = some (y : Int) ∧ wsum L (o.take i) < y
  sum : wsum L o = n
  le : ∀ i, wsum L (o.take i) ≤ n
def bigB (L : List Nde) : Bool := L.any fun d => decide (24 < d.b)
theorem pl_none {L : List Nde} : ∀ (o P : List Int) (n : Nat), plG L o P n = none → ∃ k ∈ o, 24 < (L.getD k.toNat ⟨0, []⟩).b
  | [], P, n, h => by unfold plG at h; cases h
  | k :: o, P, n, h => by
    unfold plG at h
    by_cases hb : (L.getD k.toNat ⟨0, []⟩).b ≤ 24
    · rw [if_pos hb] at h
      obtain ⟨j, hj, h2⟩ := pl_none o _ _ h
      exact ⟨j, List.mem_cons_of_mem _ hj, h2⟩
    · exact ⟨k, List.mem_cons_self .., by omega⟩
theorem nodup_len16 : ∀ {l m : List Int}, l.Nodup → (∀ x ∈ l, x ∈ m) → l.length ≤ m.length
  | [], m, _, _ => by simp
  | x :: l, m, hn, hs => by
    have hx := hs x (List.mem_cons_self ..)
    have hne := List.nodup_cons.mp hn
    have ih := nodup_len16 (m := m.erase x) hne.2 (fun y hy => (List.mem_erase_of_ne (by rintro rfl; exact hne.1 hy)).mpr (hs y (List.mem_cons_of_mem _ hy)))
    rw [List.length_erase_of_mem hx] at ih
    have := List.length_pos_of_mem hx
    simp only [List.length_cons]
    omega
theorem ord_full {L : List Nde} (ok : NdsOk L) (hu : usedB L = true) : (ordL L).length = L.length := by
  have h1 := ord_len ok
  have h2 := ord_all ok hu
  have h3 : ((List.range L.length).map fun z : Nat => (z : Int)).length ≤ (ordL L).length := by
    refine nodup_len16 ?_ ?_
    · refine List.Pairwise.map _ ?_ List.nodup_range
      intro a b h e
      exact h (by have e2 : ((a : Nat) : Int) = ((b : Nat) : Int) := e; omega)
    · intro x hx
      obtain ⟨z, hz, rfl⟩ := List.mem_map.mp hx
      exact h2 z (by simpa using hz)
  simp at h3
  omega
theorem ep_ok {L : List Nde} {P : List Int} {n : Nat} (ok : NdsOk L) (hp : plG L (ordL L) (List.replicate L.length 0) 0 = some (P, n)) : EpOk L (ordL L) P n := by
  have ho := ord_ok ok
  have hin := ord_in ok
  have pl := pl_ok (ordL L) _ P 0 n ho.nd (fun k hk => by have := hin k hk; simp; omega) hp
  generalize ordL L = o at *
  have hs : wsum L o = n := by have := pl.n; omega
  refine ⟨by rw [pl.len]; simp, fun i k d hi hd => ?_, hs, fun i => ?_⟩
  · obtain ⟨hil, he⟩ := List.getElem?_eq_some_iff.mp hi
    have hsp : o = o.take i ++ (k : Int) :: o.drop (i + 1) := by
      rw [← he, List.getElem_cons_drop, List.take_append_drop]
    have hsz : L.getD (k : Int).toNat ⟨0, []⟩ = d := by rw [Int.toNat_natCast, List.getD_eq_getElem?_getD, hd]; rfl
    have nd := ok.2 k d hd
    have hb := pl.bits (k : Int) (List.mem_of_getElem? hi)
    rw [hsz] at hb
    have h1 := pl.at' _ _ _ hsp
    rw [Int.toNat_natCast, Nat.zero_add] at h1
    refine ⟨h1, ?_, ?_, fun r hr hk => ?_⟩
    · have hbb : bitsB d.b = true := by unfold bitsB; have := nd.b0; have := nd.b1; simp; omega
      unfold wdsE
      rw [if_pos hbb, if_pos nd.io, if_pos hb]
    · rw [List.take_succ_eq_append_getElem hil, wsum_app, he]
      show _ + (szN (L.getD (k : Int).toNat ⟨0, []⟩) + 0) = _
      rw [hsz]; omega
    · obtain ⟨a1, a2, a3⟩ := ok.lead hd hr hk
      have hin2 := ho.kid _ (k : Int) _ hsp d r (by rw [Int.toNat_natCast]; exact hd) hr hk
      obtain ⟨B1, B2, hB⟩ := List.append_of_mem hin2
      have hat := pl.at' (o.take i ++ (k : Int) :: B1) r.n B2 (by rw [List.append_assoc, List.cons_append, ← hB]; exact hsp)
      rw [Nat.zero_add, wsum_app] at hat
      have hs1 : wsum L ((k : Int) :: B1) = szN d + wsum L B1 := by
        show szN (L.getD (k : Int).toNat ⟨0, []⟩) + wsum L B1 = _
        rw [hsz]
      rw [hs1] at hat
      have := sz_pos d
      exact ⟨r.n.toNat, _, by omega, by omega, hat, by omega⟩
  · rw [← hs]
    conv => rhs; rw [← List.take_append_drop i o, wsum_app]
    omega
theorem lay_cases {F : Int} {L : List Nde} (h : (chkM F L).2 = 0) : NdsOk L ∧ (ordL L).length = L.length ∧ (∃ B, ordL L = 0 :: B) ∧ (∀ x ∈ ordL L, ∃ k : Nat, x = (k : Int) ∧ k < L.length) ∧ (layR F L).1.2.2 ≤ (layR F L).1.2.2 ∧
    (((layR F L).2 = 0 ∧ bigB L = false ∧ EpOk L (ordL L) (layR F L).1.2.1 (layR F L).1.2.2) ∨ ((layR F L).2 = 18 ∧ bigB L = true)) := by
  obtain ⟨ok, hu, -, -⟩ := chk_ok h
  have hin := ord_in ok
  refine ⟨ok, ord_full ok hu, (ord_ok ok).zero, fun x hx => ⟨x.toNat, by have := hin x hx; omega, by have := hin x hx; omega⟩, Nat.le_refl _, ?_⟩
  cases hp : plG L (ordL L) (List.replicate L.length 0) 0 with
  | none =>
    right
    refine ⟨by unfold layR; rw [if_pos h, hp], ?_⟩
    obtain ⟨k, hk, h2⟩ := pl_none _ _ _ hp
    have := hin k hk
    have hkl : k.toNat < L.length := by omega
    rw [List.getD_eq_getElem?_getD, List.getElem?_eq_getElem hkl] at h2
    unfold bigB
    rw [List.any_eq_true]
    exact ⟨_, List.getElem_mem hkl, by simpa using h2⟩
  | some q =>
    obtain ⟨P, n⟩ := q
    left
    have e : layR F L = ((ordL L, P, n), 0) := by unfold layR; rw [if_pos h, hp]
    rw [e]
    refine ⟨rfl, ?_, ep_ok ok hp⟩
    have pl := pl_ok (ordL L) _ P 0 n (ord_ok ok).nd (fun k hk => by have := hin k hk; simp; omega) hp
    unfold bigB
    rw [List.any_eq_false]
    intro d hd
    obtain ⟨z, hz⟩ := List.getElem?_of_mem hd
    have hzl := (List.getElem?_eq_some_iff.mp hz).1
    have hb := pl.bits _ (ord_all ok hu z hzl)
    rw [Int.toNat_natCast, List.getD_eq_getElem?_getD, hz] at hb
    simp at hb ⊢
    omega
end Go.Proofs.Ytdpmhpmnkollaaa
namespace Go.Proofs.Ytdpmhpmnkollaaa
open Go.RowKit Go.Shelf
set_option linter.unusedSimpArgs false
set_option linter.unusedVariables false
attribute [local go_sem] Oper.semAt_some

theorem NdsOk.nokid {L : List Nde} (ok : NdsOk L) {k : Nat} {d : Nde} (hd : L[k]? = some d) (hb : d.b = 0) : ∀ r ∈ d.r, r.k = false := by
  intro r hr
  cases hk : r.k with
  | false => rfl
  | true =>
    have o := ok.2 k d hd
    have h1 := o.kid r hr hk
    have h2 := o.bz hb
    omega
set_option maxRecDepth 100000 in
set_option maxHeartbeats 16000000 in
theorem rcode16_any (F : Int) (v : Value) (L : List Nde) (most : Int) (w : World) (hv : RwD w v L) (hl : L.length ≤ 1000000) (hr : ∀ d ∈ L, d.r.length ≤ 1000000) :
    Calls Try.prog 16 #[.int .i64 F, v, .int .i64 most] w fun e w' => ∃ v', e = .returned (.tuple #[v', .int .i64 (codE F L most)]) ∧ w'.ownsRow w.heap.size 5 1 v' (codB F L most).length ((codB F L most).map cB) ∧ Below w.heap.size w w' := by
  obtain ⟨u0, hu, hy0, hy1, hy2⟩ := info13 Try.infoB13
  have KL := rplaces16_any F v L w hv hl hr
  have HLw := hid13 (lay_words (F := F) (L := L) (by omega) (fun d hd => by have := hr d hd; omega))
  have HLz := hid13 (fun h => lay_zero (F := F) (L := L) h)
  have HV := hid13 hv
  have HS : Hid (L.length ≤ 1000000 ∧ ∀ d ∈ L, d.r.length ≤ 1000000) := ⟨hl, hr⟩
  have HE : Hid (∀ R, layR F L = R → codE F L most = (if R.2 = 0 then (if min most 4194304 < 4 * (R.1.2.2 : Int) then 18 else 0) else R.2) ∧ codB F L most = if codE F L most = 0 then lyB L R.1.2.1 0 R.1.1 else []) := hid13 (fun R h => by subst h; exact ⟨rfl, rfl⟩)
  generalize codE F L most = cE at *
  generalize codB F L most = cB' at *
  generalize layR F L = R at *
  obtain ⟨⟨o, P, n⟩, e⟩ := R
  dsimp only at KL HLw HLz
  obtain ⟨ao, c, hvf, -, hrow⟩ := id hv
  have HRow := hid13 hrow
  subst hvf
  clear hv hr hl hrow
  go_enter Try.func16, Try.ntmps16
  go_wp2_with fail
  refine KL.mono ?_
  rintro e2 w2 ⟨vp, rfl, hp, hb⟩
  have HP := hid13 hp
  have HB := hid13 hb
  obtain ⟨pa, pc, hvp⟩ := own_form hp
  subst hvp
  clear KL hp hb
  by_cases h0 : e = 0
  · obtain ⟨ok, hck, hpl, hoo⟩ := HLz.out h0
    have hE := HE.out _ rfl
    dsimp only at hE
    rw [if_pos h0] at hE
    obtain ⟨b4, hb4⟩ : ∃ b4, b4 = 4 * (n : Int) := ⟨_, rfl⟩
    have m4' : wrap64 (4 * (n : Int)) = b4 := by unfold wrap64; have := HLw.out; omega
    have HH4 := hid13 hb4
    subst h0
    by_cases hc1 : most < b4
    · have HE2 : Hid (cE = 18 ∧ cB' = []) := by
        have h1 : cE = 18 := by rw [hE.1, if_pos (by omega)]
        exact ⟨h1, by rw [hE.2, h1]; rfl⟩
      clear hE HE HLz hb4 ok hck hpl hoo
      go_wp2
      refine bodyPost_ret (v := .tuple #[.slice none 0 0, .int .i64 18]) (by simp [results, Try.results16, go_sem]) rfl ⟨_, by rw [HE2.out.1], ?_, HB.out⟩
      rw [HE2.out.2]; exact World.ownsRow_nil _ _ _ _
    by_cases hc2 : 4194304 < b4
    · have HE2 : Hid (cE = 18 ∧ cB' = []) := by
        have h1 : cE = 18 := by rw [hE.1, if_pos (by omega)]
        exact ⟨h1, by rw [hE.2, h1]; rfl⟩
      clear hE HE HLz hb4 ok hck hpl hoo
      go_wp2
      refine bodyPost_ret (v := .tuple #[.slice none 0 0, .int .i64 18]) (by simp [results, Try.results16, go_sem]) rfl ⟨_, by rw [HE2.out.1], ?_, HB.out⟩
      rw [HE2.out.2]; exact World.ownsRow_nil _ _ _ _
    have hn : n ≤ 1048576 := by omega
    obtain ⟨hlo, hws⟩ := lay_ok ok hpl hn
    have hep := ep_ok ok hpl
    have hol := ord_len ok
    have hin := ord_in ok
    have HE2 : Hid (cE = 0 ∧ cB' = lyB L P 0 o) := by
      have h1 : cE = 0 := by rw [hE.1, if_neg (by omega)]
      exact ⟨h1, by rw [hE.2, if_pos h1]⟩
    have KO := rorder12_any _ L w2 (HV.out.below HB.out) ok HS.out.1 HS.out.2
    rw [← hoo] at hlo hws hep hol hin KO
    have HN : Hid (n ≤ 1048576 ∧ o.length ≤ L.length ∧ L.length ≤ 1000000 ∧ wsum L o = n) := ⟨hn, hol, HS.out.1, hws⟩
    have HLo := hid13 hlo
    have HEp := hid13 hep
    have HIn := hid13 hin
    have HOk := hid13 ok
    obtain ⟨nb, nof, e5, hnc⟩ := HRow.out.resolve_left (by rintro rfl; exact absurd ok.1 (by simp))
    subst e5
    have HNc := hid13 hnc
    clear hE HE HLz hb4 ok hck hpl hoo hlo hws hn hep hol hin hnc
    go_wp2_with fail
    refine KO.mono ?_
    rintro e3 w3 ⟨vo, rfl, ho3, hb3⟩
    obtain ⟨oa, oc, hvo⟩ := own_form ho3
    subst hvo
    have HRo := hid13 (own_rwx ho3)
    have HRp := hid13 ((own_rwx HP.out).below hb3)
    have HB3 := hid13 (keepb hb3 HB.out)
    clear KO ho3 hb3 HP HB m4' hc1 hc2
    go_wp2_with fail
    go_loopg [11, 13] o.length (fun g bv iv wr => ∃ (i : Nat) (code : List Nat) (ab : Option Addr) (bc : Nat), i + g = o.length ∧ bv = .slice ab code.length bc ∧ iv = .int .i64 (i : Int) ∧ Hid (wr.ownsRow w3.heap.size 5 1 (.slice ab code.length bc) code.length (code.map cB) ∧ Below w3.heap.size w3 wr ∧ code.length = 4 * wsum L (o.take i) ∧ code ++ lyB L P (wsum L (o.take i)) (o.drop i) = lyB L P 0 o ∧ LayOk L P (wsum L (o.take i)) (o.drop i)))
    case atStart => exact ⟨0, [], none, 0, by omega, rfl, rfl, hid13 ⟨World.ownsRow_nil _ _ _ _, Below.refl _ _, rfl, rfl, HLo.out⟩⟩
    case round =>
      obtain ⟨i, code, ab, bc, hk, rfl, rfl, HI⟩ := hrel
      by_cases hlt : (i : Int) < (o.length : Int)
      · have hli : i < o.length := by omega
        obtain ⟨x, hx⟩ : ∃ x, o[i]? = some x := ⟨o[i], by simp [hli]⟩
        obtain ⟨hx0, hx1⟩ := HIn.out x (List.mem_of_getElem? hx)
        obtain ⟨k, rfl⟩ : ∃ k : Nat, x = (k : Int) := ⟨x.toNat, by omega⟩
        have hkL : k < L.length := by omega
        obtain ⟨⟨db, dr⟩, hd⟩ : ∃ d, L[k]? = some d := ⟨L[k], by simp [hkL]⟩
        obtain ⟨p1, p2, p3, -⟩ := HEp.out.at' i k _ hx hd
        have hle := HEp.out.le i
        have hle1 := HEp.out.le (i + 1)
        have hdr := HS.out.2 _ (List.mem_of_getElem? hd)
        obtain ⟨y1, -, y3⟩ := ly_drop (P := P) hx hd (wsum L (o.take i))
        obtain ⟨z1, z2⟩ := y3 HI.out.2.2.2.2
        have hnk := HOk.out.nokid hd
        obtain ⟨vr, x0, x1, hR⟩ := HNc.out k _ hd
        dsimp only at x0 hR hdr
        have x0 := keepc HB3.out x0
        have x1 := keepc HB3.out x1
        have hR := hR.below HB3.out
        obtain ⟨oa', oc', eo, -, hor⟩ := HRo.out
        injection eo with eo1 eo2 eo3
        subst eo1 eo3
        obtain ⟨ob, oof, rfl, hoc⟩ := hor.resolve_left (by rintro rfl; simp at hli)
        have co : w3.cell? ⟨ob, oof + i, none⟩ = some (.int .i64 (k : Int)) := hoc i _ hx
        obtain ⟨pa', pc', ep, -, hpr⟩ := HRp.out
        injection ep with ep1 ep2 ep3
        subst ep1 ep3
        obtain ⟨pb, pof, rfl, hpc⟩ := hpr.resolve_left (by rintro rfl; simp at p1)
        have cp : w3.cell? ⟨pb, pof + k, none⟩ = some (.int .i64 ((wsum L (o.take i) : Nat) : Int)) := hpc k _ p1
        have hkP : (k : Int) < (P.length : Int) := by have := (List.getElem?_eq_some_iff.mp p1).1; omega
        have HZ : Hid (code.length = 4 * wsum L (o.take i) ∧ wsum L (o.take (i + 1)) = wsum L (o.take i) + szN ⟨db, dr⟩ ∧ wsum L (o.take (i + 1)) ≤ n ∧ (ndB P (wsum L (o.take i)) ⟨db, dr⟩).length = 4 * szN ⟨db, dr⟩) := ⟨HI.out.2.2.1, p3, hle1, ndB_len z1⟩
        have HY : Hid (code ++ (ndB P (wsum L (o.take i)) ⟨db, dr⟩ ++ lyB L P (wsum L (o.take (i + 1))) (o.drop (i + 1))) = lyB L P 0 o ∧ LayOk L P (wsum L (o.take (i + 1))) (o.drop (i + 1))) := by
          rw [p3]
          exact ⟨by rw [← y1]; exact HI.out.2.2.2.1, z2⟩
        have KD := fun W (h : Below w3.heap.size w3 W) => rlaid_any db vr dr P (.slice (some ⟨pb, pof, none⟩) P.length pc) (wsum L (o.take i)) W (hR.below h) (HRp.out.below h) z1 hdr (by have := HN.out; omega) hnk
        obtain ⟨S1, hS1⟩ : ∃ S1, S1 = wsum L (o.take (i + 1)) := ⟨_, rfl⟩
        rw [← hS1] at HZ HY
        have HS1 := hid13 hS1
        generalize wsum L (o.take i) = a at *
        generalize ndB P a ⟨db, dr⟩ = B at *
        generalize szN ⟨db, dr⟩ = sz at *
        have HA : Hid (∀ W, Below w3.heap.size w3 W → W.cell? ⟨ob, oof + i, none⟩ = some (.int .i64 (k : Int)) ∧ W.cell? ⟨nb, nof + k * 2, none⟩ = some (.int .i64 db) ∧ W.cell? ⟨nb, nof + k * 2 + 1, none⟩ = some vr ∧ W.cell? ⟨pb, pof + k, none⟩ = some (.int .i64 (a : Int)) ∧ Below w3.heap.size w3 W) := fun W h => ⟨keepc h co, keepc h x0, keepc h x1, keepc h cp, h⟩
        have hbl := HI.out.2.1.drew
        have KDd := KD _ hbl
        have hki : (k : Int) < (L.length : Int) := by omega
        have h63 : code.length + B.length ≤ maxLen := by have := HZ.out; have := HN.out; unfold maxLen; omega
        have h47 : (code.length + B.length) * 1 ≤ 140737488355328 := by have := HZ.out; have := HN.out; omega
        have HO9 : Hid (wr.drew.ownsRow w3.heap.size 5 1 (.slice ab code.length bc) code.length (code.map cB)) := HI.out.1.drew
        have mj : IntKind.i64.wrap ((i : Int) + 1) = (i : Int) + 1 := by rw [IntKind.wrap_i64]; have := HN.out; omega
        have HK : Hid (i + gk = o.length ∧ i < o.length) := ⟨hk, hli⟩
        have HW : Hid (w3.heap.size ≤ wr.drew.heap.size) := hbl.size
        obtain ⟨va, vc, hvr, -, -⟩ := id hR
        subst hvr
        obtain ⟨c0, c1, c2, c3, -⟩ := HA.out _ hbl
        clear hd hx hk hor hoc hpr hpc co x0 x1 cp p1 p2 p3 hle hle1 y1 y3 z1 z2 hnk hR eo2 ep2 KD HI hS1 hdr
        go_wp2_with fail
        go_region_held3 (fun w' => w'.cell? ⟨ob, oof + i, none⟩ = some (.int .i64 (k : Int)) ∧ w'.cell? ⟨nb, nof + k * 2, none⟩ = some (.int .i64 db) ∧ w'.cell? ⟨nb, nof + k * 2 + 1, none⟩ = some (.slice va dr.length vc) ∧ w'.cell? ⟨pb, pof + k, none⟩ = some (.int .i64 (a : Int)) ∧ Below w3.heap.size w3 w')
          (first
            | exact HA.out _ hbl
            | (obtain ⟨-, -, -, -, k9⟩ := ‹_ ∧ _ ∧ _ ∧ _ ∧ Below _ _ _›; exact HA.out _ (k9.grown hgrow k9.size (fun z hz => (hown.out.lt z hz).1)))
            | (obtain ⟨-, -, -, -, k9⟩ := ‹_ ∧ _ ∧ _ ∧ _ ∧ Below _ _ _›; exact HA.out _ (keepb hb4 k9))
            | (obtain ⟨-, -, -, -, k9⟩ := ‹_ ∧ _ ∧ _ ∧ _ ∧ Below _ _ _›; exact HA.out _ k9))
          (first
            | (go_at_call 30; refine KDd.mono ?_; rintro e4 w4 ⟨v4, rfl, ho4, hb4⟩; have hown := hid13 (own_b13 hb4 HO9.out); have hsrc := hid13 (own_rowA ho4); have hbase := hid13 (Nat.le_trans HW.out hb4.size))
            | (refine step_append_rowA16 rfl (.tmp 41) (.tmp 57) 27 rfl w3.heap.size 5 u0 (.int .u8 0) 1 1 Try.underlying27 hu hy0 hy1 hy2 rfl (by decide) _ code.length (code.map cB) rfl hown.out _ B.length (B.map cB) rfl hsrc.out (cB_one B) h63 h47 hbase.out ?_; intro o5 c5 w5 hown5 hgrow))
        obtain ⟨-, -, -, -, k9⟩ := ‹_ ∧ _ ∧ _ ∧ _ ∧ Below _ _ _›
        have HB5 := hid13 k9
        have HO5 := hid13 hown5
        clear k9 hown5 hgrow hown hsrc hbase ho4 hb4 KDd HA c0 c1 c2 c3 h63 h47 HO9 HW
        have HC5 : Hid ((code ++ B).length = 4 * wsum L (o.take (i + 1)) ∧ (code ++ B) ++ lyB L P (wsum L (o.take (i + 1))) (o.drop (i + 1)) = lyB L P 0 o ∧ LayOk L P (wsum L (o.take (i + 1))) (o.drop (i + 1))) := by
          rw [← HS1.out]
          refine ⟨by rw [List.length_append]; have := HZ.out; omega, by rw [List.append_assoc]; exact HY.out.1, HY.out.2⟩
        have eC : code.length + B.length = (code ++ B).length := by rw [List.length_append]
        replace HO5 : Hid (w5.ownsRow w3.heap.size 5 1 (.slice o5 (code ++ B).length c5) (code ++ B).length ((code ++ B).map cB)) := by
          show World.ownsRow _ _ _ _ _ _ _
          rw [← eC, List.map_append]; exact HO5.out
        rw [eC]
        generalize code ++ B = C0 at *
        clear eC HZ HY HS1
        go_wp2
        go_roundg (gk - 1)
        case measure => have := HK.out; omega
        case rel => exact ⟨i + 1, C0, _, _, by have := HK.out; omega, rfl, rfl, hid13 ⟨HO5.out, HB5.out, HC5.out⟩⟩
      · have hie : i = o.length := by omega
        have HFo := hid13 (own_base16 (base' := w.heap.size) HI.out.1 HB3.out.size)
        have HFb := hid13 (keepb HI.out.2.1 HB3.out)
        have HFd : Hid (code = cB') := by
          have h := HI.out.2.2.2.1
          rw [List.drop_eq_nil_of_le (by omega)] at h
          show _ = _
          rw [HE2.out.2, ← h]
          show code = code ++ []
          rw [List.append_nil]
        clear HI hk hie
        go_wp2
        refine bodyPost_ret (v := .tuple #[.slice ab code.length bc, .int .i64 0]) (by simp [results, Try.results16, go_sem]) rfl ⟨_, by rw [HE2.out.1], ?_, HFb.out⟩
        rw [← HFd.out]; exact HFo.out
  · have hE := HE.out _ rfl
    dsimp only at hE
    rw [if_neg h0] at hE
    have HE2 : Hid (cE = e ∧ cB' = []) := ⟨hE.1, by rw [hE.2, hE.1, if_neg h0]⟩
    have hne : (e != 0) = true := by simpa using h0
    clear hE HE HLz
    go_wp2
    refine bodyPost_ret (v := .tuple #[.slice none 0 0, .int .i64 e]) (by simp [results, Try.results16, go_sem]) rfl ⟨_, by rw [HE2.out.1], ?_, HB.out⟩
    rw [HE2.out.2]; exact World.ownsRow_nil _ _ _ _
end Go.Proofs.Ytdpmhpmnkollaaa
namespace Go.Proofs.Ytdpmhpmnkollaaa
open Go.RowKit
set_option linter.unusedSimpArgs false
set_option linter.unusedVariables false
attribute [local go_sem] Oper.semAt_some

end Go.Proofs.Ytdpmhpmnkollaaa
namespace Go.Proofs.Ytdpmhpmnkollaaa
open Go.RowKit Go.Shelf
set_option linter.unusedSimpArgs false
set_option linter.unusedVariables false
attribute [local go_sem] Oper.semAt_some

theorem wdB_lt (o k : Nat) (m : List (BitVec 32)) : ∀ b ∈ wdB o k m, b < 256 := by
  intro b hb
  unfold wdB at hb
  obtain ⟨x, -, hx⟩ := List.mem_flatMap.mp hb
  exact by4_lt _ x.isLt b hx
theorem rnB_lt (P : List Int) : ∀ (l : List Rn) (p : Nat), ∀ b ∈ rnB P p l, b < 256
  | [], p, b, h => by cases h
  | r :: l, p, b, h => by
    rcases List.mem_append.mp h with h | h
    · exact wdB_lt _ _ _ b h
    · exact rnB_lt P l _ b h
theorem ndB_lt (P : List Int) (a : Nat) (d : Nde) : ∀ b ∈ ndB P a d, b < 256 := by
  intro b h
  unfold ndB at h
  split at h
  · exact rnB_lt _ _ _ b h
  · rcases List.mem_append.mp h with h | h
    · exact wdB_lt _ _ _ b h
    · rcases List.mem_append.mp h with h | h
      · exact wdB_lt _ _ _ b h
      · exact rnB_lt _ _ _ b h
theorem lyB_lt (L : List Nde) (P : List Int) : ∀ (o : List Int) (a : Nat), ∀ b ∈ lyB L P a o, b < 256
  | [], a, b, h => by cases h
  | k :: o, a, b, h => by
    rcases List.mem_append.mp h with h | h
    · exact ndB_lt _ _ _ b h
    · exact lyB_lt L P o _ b h
theorem codB_lt (F : Int) (L : List Nde) (most : Int) : ∀ b ∈ codB F L most, b < 256 := by
  unfold codB
  split
  · exact lyB_lt _ _ _ _
  · intro b h; cases h
theorem cod_len {F : Int} {L : List Nde} {most : Int} (h : codE F L most = 0) : (codB F L most).length ≤ 4194304 ∧ ((codB F L most).length : Int) ≤ most ∧
    (∀ m, ((codB F L most).length : Int) ≤ m → codE F L m = 0 ∧ codB F L m = codB F L most) ∧ (∀ m, m < ((codB F L most).length : Int) → codE F L m = 18 ∧ codB F L m = []) := by
  have h' := h
  unfold codE at h
  by_cases h0 : (layR F L).2 = 0
  · rw [if_pos h0] at h
    by_cases hc : min most 4194304 < 4 * ((layR F L).1.2.2 : Int)
    · rw [if_pos hc] at h; cases h
    · obtain ⟨ok, hck, hpl, hoo⟩ := lay_zero h0
      obtain ⟨hlo, hws⟩ := lay_ok ok hpl (by omega)
      rw [← hoo] at hlo hws
      have hB : codB F L most = lyB L (layR F L).1.2.1 0 (layR F L).1.1 := by unfold codB; rw [if_pos h']
      have hlen := lyB_len hlo
      rw [← hB, hws] at hlen
      refine ⟨by omega, by omega, fun m hm => ?_, fun m hm => ?_⟩
      · have e : codE F L m = 0 := by unfold codE; rw [if_pos h0, if_neg (by omega)]
        exact ⟨e, by rw [hB]; unfold codB; rw [if_pos e]⟩
      · have e : codE F L m = 18 := by unfold codE; rw [if_pos h0, if_pos (by omega)]
        exact ⟨e, by unfold codB; rw [if_neg (by omega)]⟩
  · rw [if_neg h0] at h; exact absurd h h0
end Go.Proofs.Ytdpmhpmnkollaaa
namespace Go.Proofs.Ytdpmhpmnkollaaa
open Go.RowKit
set_option linter.unusedSimpArgs false
set_option linter.unusedVariables false
attribute [local go_sem] Oper.semAt_some

end Go.Proofs.Ytdpmhpmnkollaaa
namespace Go.Proofs.Ytdpmhpmnkollaaa
open Go.RowKit Go.Shelf
set_option linter.unusedSimpArgs false
set_option linter.unusedVariables false
attribute [local go_sem] Oper.semAt_some

structure XoO (w V0 W : World) (x1 x2 : Nat) (v : Value) (V : List Value) (L : List Nde) : Prop where
  b : Below w.heap.size w W
  k : ∀ z ob, V0.heap[z]? = some ob → (z < x1 ∨ x2 ≤ z) → W.heap[z]? = some ob
  s : V0.heap.size ≤ W.heap.size
  n : NdO W x1 v V L
  na : ∀ z, v.ownBlock = some z → x1 ≤ z ∧ z < x2
  nr : ∀ (j : Nat) (u : Value) (z : Nat), V[j]? = some u → u.ownBlock = some z → (x1 ≤ z ∧ z < x2) ∨ V0.heap.size ≤ z
  x : w.heap.size ≤ x1 ∧ x1 ≤ x2 ∧ x2 ≤ V0.heap.size
section
variable {w V0 W W' : World} {x1 x2 : Nat} {v : Value} {V : List Value} {L : List Nde}
theorem XoO.below (h : XoO w V0 W x1 x2 v V L) (hb : Below W.heap.size W W') : XoO w V0 W' x1 x2 v V L :=
  ⟨keepb hb h.b, fun z ob h1 h2 => (hb.block z (Array.getElem?_eq_some_iff.1 (h.k z ob h1 h2)).1).trans (h.k z ob h1 h2), Nat.le_trans h.s hb.size, h.n.below hb, h.na, h.nr, h.x⟩
theorem XoO.put (h : XoO w V0 W x1 x2 v V L) {i k g c : Nat} {d : Nde} (hd : L[i]? = some d) (hu : V[i]? = some (.slice (some ⟨g, 0, none⟩) d.r.length c)) (hk : k < d.r.length) (r : Rn) :
    XoO w V0 ((((W.setCell ⟨g, k * 4, none⟩ (.int .u64 (hI r.f))).setCell ⟨g, k * 4 + 1, none⟩ (.int .u64 (lI r.f))).setCell ⟨g, k * 4 + 2, none⟩ (.bool r.k)).setCell ⟨g, k * 4 + 3, none⟩ (.int .i64 r.n)) x1 x2 v V (L.set i ⟨d.b, d.r.set k r⟩) := by
  have hil := (List.getElem?_eq_some_iff.mp hd).1
  have hx := h.x
  have hs := h.s
  have hr := h.n.r i d _ hd hu
  have hg := h.nr i _ g hu rfl
  have far : ∀ z, z ≠ g → ((((W.setCell ⟨g, k * 4, none⟩ (.int .u64 (hI r.f))).setCell ⟨g, k * 4 + 1, none⟩ (.int .u64 (lI r.f))).setCell ⟨g, k * 4 + 2, none⟩ (.bool r.k)).setCell ⟨g, k * 4 + 3, none⟩ (.int .i64 r.n)).heap[z]? = W.heap[z]? := fun z hz => (far_16 hz).trans ((far_16 hz).trans ((far_16 hz).trans (far_16 hz)))
  have hgw : w.heap.size ≤ g := by rcases hg with q | q <;> omega
  obtain ⟨cs, hcs⟩ := own_typed18 hr g rfl
  have hvn : v.ownBlock ≠ some g := own_not18 h.n.o hcs (by decide)
  have hrow : ((((rowN d.r).set (k * 4) (.int .u64 (hI r.f))).set (k * 4 + 1) (.int .u64 (lI r.f))).set (k * 4 + 2) (.bool r.k)).set (k * 4 + 3) (.int .i64 r.n) = rowN (d.r.set k r) := by
    clear hcs far hr hu
    have : ∀ (l : List Rn) (k : Nat), k < l.length → ((((rowN l).set (k * 4) (.int .u64 (hI r.f))).set (k * 4 + 1) (.int .u64 (lI r.f))).set (k * 4 + 2) (.bool r.k)).set (k * 4 + 3) (.int .i64 r.n) = rowN (l.set k r) := by
      intro l
      induction l with
      | nil => intro k hk; simp at hk
      | cons a l ih =>
        intro k hk
        have e : ∀ (a : Rn) (l : List Rn), rowN (a :: l) = .int .u64 (hI a.f) :: .int .u64 (lI a.f) :: .bool a.k :: .int .i64 a.n :: rowN l := fun a l => by unfold rowN; rw [List.flatMap_cons]; rfl
        cases k with
        | zero => rw [List.set_cons_zero, e, e]; rfl
        | succ k =>
          have := ih k (by simpa using hk)
          rw [List.set_cons_succ, e, e, ← this, show (k + 1) * 4 = k * 4 + 1 + 1 + 1 + 1 by omega]
          rfl
    exact this d.r k hk
  have hown := own_put18 (own_put18 (own_put18 (own_put18 hr (.int .u64 (hI r.f)) (j := k * 4) (by omega)) (.int .u64 (lI r.f)) (j := k * 4 + 1) (by omega)) (.bool r.k) (j := k * 4 + 2) (by omega)) (.int .i64 r.n) (j := k * 4 + 3) (by omega)
  rw [hrow] at hown
  refine ⟨?_, fun z ob h1 h2 => ?_, by simp; exact hs, ⟨?_, by rw [List.length_set]; exact h.n.l, fun j e u q1 q2 => ?_, h.n.d⟩, h.na, h.nr, h.x⟩
  · exact (((h.b.setCell (p := ⟨g, _, none⟩) hgw _).setCell (p := ⟨g, _, none⟩) hgw _).setCell (p := ⟨g, _, none⟩) hgw _).setCell (p := ⟨g, _, none⟩) hgw _
  · have hz : z < V0.heap.size := (Array.getElem?_eq_some_iff.1 h1).1
    exact (far z (by omega)).trans (h.k z ob h1 h2)
  · have e : rowD (L.set i ⟨d.b, d.r.set k r⟩) V = rowD L V := by
      have : ∀ (L : List Nde) (V : List Value) (i : Nat), L[i]? = some d → rowD (L.set i ⟨d.b, d.r.set k r⟩) V = rowD L V := by
        intro L
        induction L with
        | nil => intro V i h; simp at h
        | cons a L ih =>
          intro V i h
          cases V with
          | nil => cases i <;> rfl
          | cons y V =>
            cases i with
            | zero => simp at h; subst h; rfl
            | succ i =>
              have := ih V i (by simpa using h)
              show _ :: _ :: rowD (L.set i _) V = _
              rw [this]; rfl
      exact this L V i hd
    rw [e, List.length_set]
    exact own_keep18 h.n.o (fun z hz => far z (by rintro rfl; exact hvn hz))
  · by_cases hji : j = i
    · subst hji
      rw [hu] at q2
      injection q2 with q2
      subst q2
      rw [List.getElem?_set_self hil] at q1
      injection q1 with q1
      subst q1
      dsimp only
      rw [List.length_set]
      exact hown
    · rw [List.getElem?_set_ne (Ne.symm hji)] at q1
      refine own_keep18 (h.n.r j e u q1 q2) (fun z hz => far z ?_)
      rintro rfl
      exact hji (h.n.d j i u _ z q2 hu hz rfl)
end
end Go.Proofs.Ytdpmhpmnkollaaa
namespace Go.Proofs.Ytdpmhpmnkollaaa
open Go.RowKit
set_option linter.unusedSimpArgs false
set_option linter.unusedVariables false
attribute [local go_sem] Oper.semAt_some

end Go.Proofs.Ytdpmhpmnkollaaa
namespace Go.Proofs.Ytdpmhpmnkollaaa
open Go.RowKit Go.Shelf
set_option linter.unusedSimpArgs false
set_option linter.unusedVariables false
attribute [local go_sem] Oper.semAt_some

def BdL (N : Nat) (L : List Nde) : Prop := ∀ d ∈ L, 1 ≤ d.r.length ∧ d.r.length ≤ N
theorem BdL.set {N i : Nat} {L : List Nde} {d : Nde} (h : BdL N L) (hd : 1 ≤ d.r.length ∧ d.r.length ≤ N) : BdL N (L.set i d) := fun e he => by
  rcases List.mem_or_eq_of_mem_set he with q | q
  · exact h e q
  · subst q; exact hd
theorem NdO.keep {W W' : World} {base : Nat} {v : Value} {V : List Value} {L : List Nde} (h : NdO W base v V L) (hk : ∀ z, base ≤ z → z < W.heap.size → W'.heap[z]? = W.heap[z]?) : NdO W' base v V L :=
  ⟨own_keep18 h.o (fun g hg => hk g (h.o.lt g hg).1 (h.o.lt g hg).2), h.l, fun j d u h1 h2 => own_keep18 (h.r j d u h1 h2) (fun g hg => hk g ((h.r j d u h1 h2).lt g hg).1 ((h.r j d u h1 h2).lt g hg).2), h.d⟩
def W9 (i : Nat) (L : List Nde) : Prop := ∀ (j : Nat) (d : Nde), j < i → L[j]? = some d → ∀ r ∈ d.r, r.n = -9
def F9 (L : List Nde) : Prop := ∀ d ∈ L, ∃ r t, d.r = r :: t ∧ r.n = -9
theorem W9.f {n : Nat} {L : List Nde} (h : W9 n L) (hl : L.length = n) (hb : ∀ d ∈ L, 1 ≤ d.r.length) : F9 L := fun d hd => by
  obtain ⟨j, hj⟩ := List.getElem?_of_mem hd
  have hjl := (List.getElem?_eq_some_iff.mp hj).1
  cases hr : d.r with
  | nil => have := hb d hd; rw [hr] at this; simp at this
  | cons r t => exact ⟨r, t, rfl, h j d (by omega) hj r (by rw [hr]; simp)⟩
structure In9 (n N i dl k : Nat) (L : List Nde) : Prop where
  l : L.length = n
  b : BdL N L
  w : W9 i L
  d : ∃ d, L[i]? = some d ∧ d.r.length = dl ∧ ∀ j r, j < k → d.r[j]? = some r → r.n = -9
theorem In9.start {n N i : Nat} {L : List Nde} {d : Nde} (hl : L.length = n) (hb : BdL N L) (hw : W9 i L) (hd : L[i]? = some d) : In9 n N i d.r.length 0 L := ⟨hl, hb, hw, d, hd, rfl, fun j r h => by omega⟩
theorem In9.fin {n N i dl : Nat} {L : List Nde} (h : In9 n N i dl dl L) : W9 (i + 1) L := fun j e hj he r hr => by
  by_cases c : j = i
  · subst c
    obtain ⟨d, hd, hl, hk⟩ := h.d
    rw [hd] at he
    injection he with he
    subst he
    obtain ⟨q, hq⟩ := List.getElem?_of_mem hr
    exact hk q r (by rw [← hl]; exact (List.getElem?_eq_some_iff.mp hq).1) hq
  · exact h.w j e (by omega) he r hr
structure Gr9 (n N i : Nat) (L : List Nde) : Prop where
  l : L.length = n
  b : BdL (N + 1) L
  w : ∀ (j : Nat) (d : Nde), i ≤ j → L[j]? = some d → d.r.length ≤ N
  f : F9 L
theorem Gr9.start {n N : Nat} {L : List Nde} (hl : L.length = n) (hb : BdL N L) (hf : F9 L) : Gr9 n N 0 L := ⟨hl, fun d hd => by have := hb d hd; omega, fun j d _ h => (hb d (List.mem_of_getElem? h)).2, hf⟩
end Go.Proofs.Ytdpmhpmnkollaaa
namespace Go.Proofs.Ytdpmhpmnkollaaa
open Go.RowKit
set_option linter.unusedSimpArgs false
set_option linter.unusedVariables false

structure DB where
  a : Int
  t : Int
  m : List (BitVec 32)
  en : Int
  es : List (Int × Int)
def DB.pb (d : DB) : PB := ⟨d.a, d.t, d.m, prE d.en d.es⟩
noncomputable def blkD (l : List Nat) (a : Int) : DB := ⟨a, (dcI l a).n, (dcI l (a + 1)).m, a + 1 + dcZ l (a + 1), (enG l (a + 1 + dcZ l (a + 1)) (sumW (dcI l (a + 1)).m (dcI l (a + 1)).m.length) 0 []).1⟩
theorem bs_err {l : List Nat} {f : Nat} {a : Int} {P : List PB} (h : (bkE l a).1 ≠ 0) : bsG l (f + 1) a P = ([], (bkE l a).2, (bkE l a).1) := by
  rw [bsG_succ]
  unfold bkE at h ⊢
  by_cases c1 : dcE l a ≠ 0
  · rw [if_pos c1, if_pos c1]
  rw [if_neg c1] at h
  rw [if_neg c1, if_neg c1]
  by_cases c2 : (dcI l a).op ≠ 1
  · rw [if_pos c2, if_pos c2]
  rw [if_neg c2] at h
  rw [if_neg c2, if_neg c2]
  by_cases c3 : dcE l (a + 1) ≠ 0
  · rw [if_pos c3, if_pos c3]
  rw [if_neg c3] at h
  rw [if_neg c3, if_neg c3]
  by_cases c4 : (dcI l (a + 1)).op ≠ 2
  · rw [if_pos c4, if_pos c4]
  rw [if_neg c4] at h
  rw [if_neg c4, if_neg c4]
  by_cases c5 : (dcI l (a + 1)).n ≠ (dcI l a).n
  · rw [if_pos c5, if_pos c5]
  rw [if_neg c5] at h
  rw [if_neg c5, if_neg c5]
  unfold bsF
  rw [if_pos h]
theorem bk_okd {l : List Nat} {a : Int} (h : (bkE l a).1 = 0) : dcE l a = 0 ∧ (dcI l a).op = 1 ∧ dcE l (a + 1) = 0 ∧ (dcI l (a + 1)).op = 2 ∧ (dcI l (a + 1)).n = (dcI l a).n ∧ (enG l (a + 1 + dcZ l (a + 1)) (sumW (dcI l (a + 1)).m (dcI l (a + 1)).m.length) 0 []).2.1 = 0 := by
  unfold bkE at h
  by_cases c1 : dcE l a ≠ 0
  · rw [if_pos c1] at h; exact absurd h c1
  rw [if_neg c1] at h
  by_cases c2 : (dcI l a).op ≠ 1
  · rw [if_pos c2] at h; exact absurd h (by simp)
  rw [if_neg c2] at h
  by_cases c3 : dcE l (a + 1) ≠ 0
  · rw [if_pos c3] at h; exact absurd h c3
  rw [if_neg c3] at h
  by_cases c4 : (dcI l (a + 1)).op ≠ 2
  · rw [if_pos c4] at h; exact absurd h (by simp)
  rw [if_neg c4] at h
  by_cases c5 : (dcI l (a + 1)).n ≠ (dcI l a).n
  · rw [if_pos c5] at h; exact absurd h (by simp)
  rw [if_neg c5] at h
  exact ⟨by simpa using c1, by simpa using c2, by simpa using c3, by simpa using c4, by simpa using c5, h⟩
theorem bs_ok {l : List Nat} {f : Nat} {a : Int} {P : List PB} (h : (bkE l a).1 = 0) : bsG l (f + 1) a P = if a + 1 + dcZ l (a + 1) + (sumW (dcI l (a + 1)).m (dcI l (a + 1)).m.length : Nat) < wds l then bsG l f (a + 1 + dcZ l (a + 1) + (sumW (dcI l (a + 1)).m (dcI l (a + 1)).m.length : Nat)) (P ++ [(blkD l a).pb]) else (P ++ [(blkD l a).pb], 0, 0) := by
  obtain ⟨c1, c2, c3, c4, c5, c6⟩ := bk_okd h
  rw [bsG_succ, if_neg (by simp [c1]), if_neg (by simp [c2]), if_neg (by simp [c3]), if_neg (by simp [c4]), if_neg (by simp [c5])]
  unfold bsF
  rw [if_neg (by simp [c6])]
  rfl
theorem prE_get : ∀ (p : Int) (A : List (Int × Int)) (j : Nat) (e : Int × Int), A[j]? = some e → (prE p A)[j]? = some (prX (p + j) e)
  | p, [], j, e, h => by simp at h
  | p, x :: A, 0, e, h => by
    simp at h; subst h
    show some (prX p x) = _
    simp
  | p, x :: A, j + 1, e, h => by
    have := prE_get (p + 1) A j e (by simpa using h)
    show (prE (p + 1) A)[j]? = _
    rw [this]
    congr 2
    push_cast
    omega
theorem mkX18_set0 (s : List Bool) (e : Bool × Int) : mkX (s.set 0 true) e = (mkX s e).set 0 true := by
  unfold mkX
  split
  · by_cases c : e.2.toNat = 0
    · rw [c]
    · rw [List.set_comm _ _ (by omega)]
  · rfl
theorem mkF18_set0 : ∀ (es : List (Bool × Int)) (s : List Bool), es.foldl mkX (s.set 0 true) = (es.foldl mkX s).set 0 true
  | [], s => rfl
  | e :: t, s => by rw [List.foldl_cons, List.foldl_cons, mkX18_set0, mkF18_set0 t]
theorem mkA18_set0 : ∀ (P : List PB) (s : List Bool), P.foldl mkB (s.set 0 true) = (P.foldl mkB s).set 0 true
  | [], s => rfl
  | b :: t, s => by
    rw [List.foldl_cons, List.foldl_cons]
    show t.foldl mkB (b.es.foldl mkX (s.set 0 true)) = _
    rw [mkF18_set0, mkA18_set0 t]; rfl
theorem usR_no {P : List PB} (h : ∀ k, 1 ≤ k → k < P.length → ((P.foldl mkB (List.replicate P.length false)).getD k false) = true) : usR P = (0, 0) := by
  unfold usR
  have hm : mkA P = (P.foldl mkB (List.replicate P.length false)).set 0 true := by unfold mkA mk0; exact mkA18_set0 P _
  have hl : (P.foldl mkB (List.replicate P.length false)).length = P.length := by rw [mkA_len]; simp
  have hx : ixB (mkA P) = -1 := by
    unfold ixB
    have : (mkA P).findIdx? (· == false) = none := by
      rw [List.findIdx?_eq_none_iff]
      intro x hx
      obtain ⟨k, hk⟩ := List.getElem?_of_mem hx
      rw [hm] at hk
      have hkl := (List.getElem?_eq_some_iff.mp hk).1
      rw [List.length_set, hl] at hkl
      by_cases c : k = 0
      · subst c
        rw [List.getElem?_set_self (by omega)] at hk
        injection hk with hk
        subst hk; rfl
      · rw [List.getElem?_set_ne (by omega)] at hk
        have := h k (by omega) hkl
        rw [List.getD_eq_getElem?_getD, hk] at this
        simp at this
        subst this; rfl
    rw [this]
  rw [hx, if_neg (by omega)]
theorem usR_at {P : List PB} {k : Nat} {b : PB} (h1 : 1 ≤ k) (hb : P[k]? = some b) (h0 : ((P.foldl mkB (List.replicate P.length false)).getD k false) = false) (h : ∀ j, 1 ≤ j → j < k → ((P.foldl mkB (List.replicate P.length false)).getD j false) = true) : usR P = (b.a, 31) := by
  unfold usR
  have hm : mkA P = (P.foldl mkB (List.replicate P.length false)).set 0 true := by unfold mkA mk0; exact mkA18_set0 P _
  have hl : (P.foldl mkB (List.replicate P.length false)).length = P.length := by rw [mkA_len]; simp
  have hkl := (List.getElem?_eq_some_iff.mp hb).1
  have hx : ixB (mkA P) = (k : Int) := by
    unfold ixB
    have : (mkA P).findIdx? (· == false) = some k := by
      rw [List.findIdx?_eq_some_iff_getElem]
      rw [hm]
      refine ⟨by rw [List.length_set, hl]; exact hkl, ?_, fun j hj => ?_⟩
      · rw [List.getElem_set_ne (by omega)]
        rw [List.getD_eq_getElem?_getD, List.getElem?_eq_getElem (by rw [hl]; exact hkl)] at h0
        simp at h0
        simp [h0]
      · by_cases c : j = 0
        · subst c; simp
        · rw [List.getElem_set_ne (by omega)]
          have := h j (by omega) hj
          rw [List.getD_eq_getElem?_getD, List.getElem?_eq_getElem (by rw [hl]; omega)] at this
          simp at this
          simp [this]
    rw [this]
  rw [hx, if_pos (by omega), Int.toNat_natCast, List.getD_eq_getElem?_getD, hb]
  rfl
end Go.Proofs.Ytdpmhpmnkollaaa
namespace Go.Proofs.Ytdpmhpmnkollaaa
open Go.RowKit
set_option linter.unusedSimpArgs false
set_option linter.unusedVariables false

theorem cnt_skip (m : List (BitVec 32)) (p : Nat) : ∀ n, (∀ j, p ≤ j → j < p + n → plc m j = false) → cnt m (p + n) = cnt m p
  | 0, _ => rfl
  | n + 1, h => by
    have ih := cnt_skip m p n (fun j a b => h j a (by omega))
    show cnt m (p + n) + (plc m (p + n)).toNat = _
    rw [ih, h (p + n) (by omega) (by omega)]; rfl
theorem cnt_map (m : List (BitVec 32)) (n : Nat) (h : isMapB m n = true) : cnt m (2 ^ n) = sumW m m.length ∧ 2 ^ n ≤ 32 * m.length := by
  unfold isMapB at h
  simp only [Bool.and_eq_true, decide_eq_true_eq] at h
  obtain ⟨h1, h2⟩ := h
  unfold mwN at h1
  by_cases c : n < 5
  · rw [if_pos c] at h1
    obtain ⟨x, rfl⟩ : ∃ x, m = [x] := List.length_eq_one_iff.mp h1
    have hp : 2 ^ n ≤ 2 ^ 4 := Nat.pow_le_pow_right (by decide) (by omega)
    refine ⟨?_, by simp; omega⟩
    rw [← cnt_words]
    have := cnt_skip [x] (2 ^ n) (32 - 2 ^ n) (fun j a b => by
      unfold plc
      rw [show j / 32 = 0 by omega, show j % 32 = j by omega]
      unfold topB at h2
      simp only [Bool.and_eq_true, beq_iff_eq] at h2
      have h3 : (x <<< 2 ^ n).getLsbD (31 - j + 2 ^ n) = false := by
        have h4 : (x <<< 2 ^ n) = 0#32 := h2.2
        rw [h4]; simp
      rw [BitVec.getLsbD_shiftLeft] at h3
      unfold bt
      show x.getLsbD (31 - j) = false
      have e1 : decide (31 - j + 2 ^ n < 32) = true := decide_eq_true (by omega)
      have e2 : decide (31 - j + 2 ^ n < 2 ^ n) = false := decide_eq_false (by omega)
      rw [e1, e2] at h3
      simpa using h3)
    rw [show 2 ^ n + (32 - 2 ^ n) = 32 * [x].length by simp; omega] at this
    exact this.symm
  · rw [if_neg c] at h1
    have e : 32 * m.length = 2 ^ n := by
      rw [h1, show (32 : Nat) = 2 ^ 5 by decide, ← Nat.pow_add, show 5 + (n - 5) = n by omega]
    rw [← cnt_words, e]
    exact ⟨rfl, Nat.le_refl _⟩
theorem chk_isMap {n : Int} {m : List (BitVec 32)} (h : chkE 2 n m = 0) : isMapB m n.toNat = true := by
  unfold chkE at h
  split at h
  · split at h
    · rw [if_pos rfl] at h
      split at h
      · assumption
      · cases h
    · cases h
  · cases h
end Go.Proofs.Ytdpmhpmnkollaaa
