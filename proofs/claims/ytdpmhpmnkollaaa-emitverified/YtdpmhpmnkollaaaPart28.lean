/-
  Part 28 of the proof: 1 texts, one behind the other.
-/
import Derived.Test.YtdpmhpmnkollaaaPart27
import Derived.Test.YtdpmhpmnkollaaaPart7
namespace Go.Proofs.Ytdpmhpmnkollaaa
open Go.RowKit Go.Shelf
set_option linter.unusedSimpArgs false
set_option linter.unusedVariables false
attribute [local go_sem] Oper.semAt_some

structure WyR (n k : Nat) (F u : Int) (A : List (Int × Int)) (X1 X2 : List Int) : Prop where
  l1 : X1.length = n
  l2 : X2.length = n
  la : A.length = n
  r : ∀ j, k ≤ j → j < n → X1.getD j 0 = (A.getD j (0, 0)).2 ∧ X2.getD j 0 = (A.getD j (0, 0)).1
  b1 : ∀ x ∈ X1, 0 ≤ x ∧ x ≤ F
  b2 : ∀ x ∈ X2, 0 ≤ x ∧ x ≤ u
theorem getD_set18 {α : Type} (l : List α) (i j : Nat) (x d : α) (hj : j < l.length) : (l.set i x).getD j d = if i = j then x else l.getD j d := by
  rw [List.getD_eq_getElem?_getD, List.getD_eq_getElem?_getD, List.getElem?_set]
  split
  · subst_vars
    rw [if_pos hj]; rfl
  · rfl
theorem WyR.at1 {n k : Nat} {F u : Int} {A : List (Int × Int)} {X1 X2 : List Int} (h : WyR n k F u A X1 X2) {j : Nat} (hj : j < n) : 0 ≤ X1.getD j 0 ∧ X1.getD j 0 ≤ F ∧ 0 ≤ X2.getD j 0 ∧ X2.getD j 0 ≤ u := by
  have h1 : j < X1.length := by rw [h.l1]; exact hj
  have h2 : j < X2.length := by rw [h.l2]; exact hj
  rw [List.getD_eq_getElem?_getD, List.getD_eq_getElem?_getD, List.getElem?_eq_getElem h1, List.getElem?_eq_getElem h2]
  have a := h.b1 _ (List.getElem_mem h1)
  have b := h.b2 _ (List.getElem_mem h2)
  exact ⟨a.1, a.2, b.1, b.2⟩
theorem WyR.own {n k : Nat} {F u hB hM : Int} {A : List (Int × Int)} {X1 X2 : List Int} (h : WyR n k F u A X1 X2) (h1 : 0 ≤ hM ∧ hM ≤ F) (h2 : 0 ≤ hB ∧ hB ≤ u + 1) : WyR n (k + 1) F (u + 1) A (X1.set k hM) (X2.set k hB) := by
  refine ⟨by rw [List.length_set]; exact h.l1, by rw [List.length_set]; exact h.l2, h.la, fun j h3 h4 => ?_, fun x hx => ?_, fun x hx => ?_⟩
  · rw [getD_set18 _ _ _ _ _ (by rw [h.l1]; exact h4), getD_set18 _ _ _ _ _ (by rw [h.l2]; exact h4), if_neg (by omega), if_neg (by omega)]
    exact h.r j (by omega) h4
  · rcases List.mem_or_eq_of_mem_set hx with q | q
    · exact h.b1 x q
    · subst q; exact h1
  · rcases List.mem_or_eq_of_mem_set hx with q | q
    · have := h.b2 x q; omega
    · subst q; exact h2
theorem WyR.up {n k tt : Nat} {F u M B : Int} {A : List (Int × Int)} {X1 X2 : List Int} (h : WyR n (k + 1) F u A X1 X2) (hk : k < n) (h1 : X1.getD k 0 = M) (h2 : X2.getD k 0 = B) (hto : tt < n) :
    WyR n (k + 1) F u (upX B M A (true, (tt : Int))) (X1.set tt (max (X1.getD tt 0) M)) (X2.set tt (max (X2.getD tt 0) B)) ∧ (X1.set tt (max (X1.getD tt 0) M)).getD k 0 = M ∧ (X2.set tt (max (X2.getD tt 0) B)).getD k 0 = B := by
  have hM := h.at1 hk
  rw [h1, h2] at hM
  have hT := h.at1 hto
  refine ⟨⟨by rw [List.length_set]; exact h.l1, by rw [List.length_set]; exact h.l2, by rw [upX_len]; exact h.la, fun j h3 h4 => ?_, fun x hx => ?_, fun x hx => ?_⟩, ?_, ?_⟩
  · unfold upX
    rw [if_pos rfl]
    dsimp only
    rw [Int.toNat_natCast, getD_set18 _ _ _ _ _ (by rw [h.l1]; exact h4), getD_set18 _ _ _ _ _ (by rw [h.la]; exact h4), getD_set18 _ _ _ _ _ (by rw [h.l2]; exact h4)]
    have hr := h.r j h3 h4
    by_cases c : tt = j
    · subst c
      rw [if_pos rfl, if_pos rfl, if_pos rfl, hr.1, hr.2]
      exact ⟨rfl, rfl⟩
    · rw [if_neg c, if_neg c, if_neg c]
      exact hr
  · rcases List.mem_or_eq_of_mem_set hx with q | q
    · exact h.b1 x q
    · subst q; omega
  · rcases List.mem_or_eq_of_mem_set hx with q | q
    · exact h.b2 x q
    · subst q; omega
  · rw [getD_set18 _ _ _ _ _ (by rw [h.l1]; exact hk)]
    split
    · subst_vars; omega
    · exact h1
  · rw [getD_set18 _ _ _ _ _ (by rw [h.l2]; exact hk)]
    split
    · subst_vars; omega
    · exact h2
structure WyM (w : World) (Z1 Z2 : Nat) (X1 X2 : List Int) (W : World) : Prop where
  z1 : W.heap[Z1]? = some (.cells (X1.map cI).toArray 3)
  z2 : W.heap[Z2]? = some (.cells (X2.map cI).toArray 3)
  b : Below w.heap.size w W
  n1 : w.heap.size ≤ Z1
  n2 : w.heap.size ≤ Z2
  d : Z1 ≠ Z2
section
variable {w W W' : World} {Z1 Z2 : Nat} {X1 X2 : List Int}
theorem WyM.below (h : WyM w Z1 Z2 X1 X2 W) (hb : Below W.heap.size W W') : WyM w Z1 Z2 X1 X2 W' := ⟨(hb.block _ (lt_16 h.z1)).trans h.z1, (hb.block _ (lt_16 h.z2)).trans h.z2, keepb hb h.b, h.n1, h.n2, h.d⟩
theorem WyM.s1 (h : WyM w Z1 Z2 X1 X2 W) (k : Nat) (x : Int) : WyM w Z1 Z2 (X1.set k x) X2 (W.setCell ⟨Z1, k, none⟩ (.int .i64 x)) :=
  ⟨by rw [set_16 h.z1, List.setIfInBounds_toArray, List.map_set]; rfl, (far_16 (Ne.symm h.d)).trans h.z2, h.b.setCell (p := ⟨Z1, k, none⟩) h.n1 _, h.n1, h.n2, h.d⟩
theorem WyM.s2 (h : WyM w Z1 Z2 X1 X2 W) (k : Nat) (x : Int) : WyM w Z1 Z2 X1 (X2.set k x) (W.setCell ⟨Z2, k, none⟩ (.int .i64 x)) :=
  ⟨(far_16 h.d).trans h.z1, by rw [set_16 h.z2, List.setIfInBounds_toArray, List.map_set]; rfl, h.b.setCell (p := ⟨Z2, k, none⟩) h.n2 _, h.n1, h.n2, h.d⟩
theorem WyM.c1 (h : WyM w Z1 Z2 X1 X2 W) {k : Nat} (hk : k < X1.length) : W.cell? ⟨Z1, k, none⟩ = some (.int .i64 (X1.getD k 0)) ∧ W.frozen? ⟨Z1, k, none⟩ = false := by
  refine ⟨at_16 h.z1 k _ ?_, fr_16 h.z1⟩
  rw [List.getElem?_toArray, List.getElem?_map, List.getD_eq_getElem?_getD, List.getElem?_eq_getElem hk]; rfl
theorem WyM.c2 (h : WyM w Z1 Z2 X1 X2 W) {k : Nat} (hk : k < X2.length) : W.cell? ⟨Z2, k, none⟩ = some (.int .i64 (X2.getD k 0)) ∧ W.frozen? ⟨Z2, k, none⟩ = false := by
  refine ⟨at_16 h.z2 k _ ?_, fr_16 h.z2⟩
  rw [List.getElem?_toArray, List.getElem?_map, List.getD_eq_getElem?_getD, List.getElem?_eq_getElem hk]; rfl
end
theorem Try.infoI18 : (Try.prog.info? 3).map (fun i => (i.zero, i.size, i.bytes)) = some (some (.int .i64 0), 1, 8) := by kernel_rfl
def WyQ (w : World) (F : Int) (vl : Value) (P : List PB) (e : Ending) (w' : World) : Prop := ∃ v, e = .returned (.tuple #[v, .int .i64 (msR F P).1, .int .i64 (msR F P).2.1, .int .i64 (msR F P).2.2]) ∧ Below w.heap.size w w' ∧ ((msR F P).2.2 = 0 → v = vl) ∧ ((msR F P).2.2 ≠ 0 → v = .slice none 0 0)
def lkD (D : List DB) : List PB := (D.map DB.pb).map (lkB (D.map DB.a))
set_option maxRecDepth 100000 in
set_option maxHeartbeats 16000000 in
theorem rways18 (w : World) (F : Int) (base : Nat) (g c : Nat) (Kv : List Kv) (D : List DB) (hK : KbV w base (.slice (some ⟨g, 0, none⟩) Kv.length c) Kv D) (hF : 0 ≤ F ∧ F ≤ 1000) (hs : (D.map DB.a).Pairwise (· < ·)) (h0 : 0 < D.length) (hl : D.length ≤ 2000000) (hb : ∀ d ∈ D, (0 ≤ d.t ∧ d.t ≤ 1000) ∧ (0 ≤ d.en ∧ d.en ≤ 100000000) ∧ d.es.length ≤ 100000000 ∧ ∀ e ∈ d.es, 0 ≤ e.2 ∧ e.2 ≤ 16777215)
    (hlk : ∀ b ∈ lkD D, ∀ e ∈ b.es, e.1 = true → 0 ≤ e.2 ∧ e.2 < D.length) :
    Calls Try.prog 40 #[.int .i64 F, .slice (some ⟨g, 0, none⟩) Kv.length c] w (WyQ w F (.slice (some ⟨g, 0, none⟩) Kv.length c) (lkD D)) := by
  obtain ⟨i0, hi, hz0, hz1, hz2⟩ := info13 Try.infoI18
  have HK := hid13 hK
  have HF0 := hid13 hF
  have HB := hid13 hb
  have HLk := hid13 hlk
  have KFi := hid13 (fun W (h : Below w.heap.size w W) x => kfind18 (hK.below h) x hs (by omega))
  obtain ⟨n, hn⟩ : ∃ n, n = Kv.length := ⟨_, rfl⟩
  have HN : Hid (n = D.length ∧ n = Kv.length ∧ n ≤ 2000000) := ⟨by rw [hn, hK.l], hn, by rw [hn, hK.l]; exact hl⟩
  rw [← hn] at KFi
  rw [← hn]
  have hnb : n ≤ 2000000 := HN.out.2.2
  clear hK hF hs h0 hl hb hlk hn
  go_enter Try.func40, Try.ntmps40
  go_wp2_with (at_make; apply stopHere9)
  refine (show wpList _ _ _ _ _ _ from ?_)
  refine wpList_make16 _ rfl _ _ 37 rfl 3 i0 (.int .i64 0) Try.underlying37 hi hz0 .i64 .i64 _ _ n n rfl rfl rfl rfl (Nat.le_refl _) (by rw [hz2]; omega) (by unfold maxLen; omega) ?_
  have eO : Obj.cells (madeCells (Value.int IntKind.i64 0).cells (n * i0.size)) 3 = .cells ((List.replicate n (0 : Int)).map cI).toArray 3 := by
    rw [hz1, Nat.mul_one, List.map_replicate]
    exact congrArg (fun z => Obj.cells z 3) (made_one16 _ _)
  rw [eO]
  obtain ⟨O, hO⟩ : ∃ O : Obj, O = .cells ((List.replicate n (0 : Int)).map cI).toArray 3 := ⟨_, rfl⟩
  rw [← hO] at eO ⊢
  have HeO := hid13 eO
  have HOo := hid13 hO
  clear eO hO
  go_wp2_with (at_make; apply stopHere9)
  refine (show wpList _ _ _ _ _ _ from ?_)
  refine wpList_make16 _ rfl _ _ 37 rfl 3 i0 (.int .i64 0) Try.underlying37 hi hz0 .i64 .i64 _ _ n n rfl rfl rfl rfl (Nat.le_refl _) (by rw [hz2]; omega) (by unfold maxLen; omega) ?_
  rw [HeO.out]
  have q1 := bl1 w O
  have q2 := bl1 (w.alloc O) O
  have HM0 : Hid (WyM w w.heap.size (w.heap.size + 1) (List.replicate n 0) (List.replicate n 0) ((w.alloc O).alloc O)) := by
    have n1 := new_16 w O
    have n2 := new_16 (w.alloc O) O
    rw [World.size_alloc] at n2
    rw [HOo.out] at n1 n2
    refine ⟨?_, ?_, keepb q2 q1, Nat.le_refl _, Nat.le_succ _, by omega⟩
    · rw [HOo.out]
      rw [HOo.out] at q2
      exact (q2.block _ (lt_16 n1)).trans n1
    · rw [HOo.out]; exact n2
  have hs1 : (w.alloc O).heap.size = w.heap.size + 1 := World.size_alloc ..
  clear HOo HeO q1 q2
  go_wp2_with fail
  revert HM0
  generalize (w.alloc O).alloc O = W0
  intro HM0
  obtain ⟨Z1, hZ1⟩ : ∃ Z1, Z1 = w.heap.size := ⟨_, rfl⟩
  rw [← hZ1] at HM0 ⊢
  obtain ⟨Z2, hZ2⟩ : ∃ Z2, Z2 = Z1 + 1 := ⟨_, rfl⟩
  rw [← hZ2] at HM0 ⊢
  have HR0 : Hid (msG F (lkD D) 0 (List.replicate n (0, 0)) 0 = msR F (lkD D)) := hid13 (by unfold msR lkD; rw [List.length_map, List.length_map, HN.out.1])
  obtain ⟨P, hP⟩ : ∃ P, P = lkD D := ⟨_, rfl⟩
  have HP := hid13 hP
  rw [← hP] at HLk HR0
  clear hZ1 hZ2 hs1 hP
  go_loopg [10, 11] n (fun gk dv iv wr => ∃ (k : Nat) (dp : Int) (A : List (Int × Int)) (B : List PB) (X1 X2 : List Int), k + gk = n ∧ iv = .int .i64 (k : Int) ∧ dv = .int .i64 dp ∧ Hid (WyM w Z1 Z2 X1 X2 wr ∧ WyR n k F (k : Int) A X1 X2 ∧ P.drop k = B ∧ msG F B k A dp = msR F P ∧ 0 ≤ dp ∧ dp ≤ (k : Int)))
  case atStart => exact ⟨0, 0, List.replicate n (0, 0), P, List.replicate n 0, List.replicate n 0, by omega, rfl, rfl, hid13 ⟨HM0.out, ⟨by simp, by simp, by simp, fun j h1 h2 => by rw [List.getD_eq_getElem?_getD, List.getD_eq_getElem?_getD, List.getElem?_replicate, if_pos h2, List.getElem?_replicate, if_pos h2]; exact ⟨rfl, rfl⟩, fun x hx => by rw [List.eq_of_mem_replicate hx]; have := HF0.out; omega, fun x hx => by rw [List.eq_of_mem_replicate hx]; simp⟩, rfl, HR0.out, Int.le_refl _, Int.le_refl _⟩⟩
  case round =>
    clear HM0 HR0
    obtain ⟨k, dp, A, B, X1, X2, hk, rfl, rfl, HI⟩ := hrel
    by_cases hlt : (k : Int) < (n : Int)
    · have hkD : k < D.length := by have := HN.out; omega
      obtain ⟨d, hd⟩ : ∃ d, D[k]? = some d := ⟨_, List.getElem?_eq_getElem hkD⟩
      obtain ⟨x, hx, hxa, hxt, hxe, -, es, hxo, hxs, -⟩ := HK.out.get hd
      obtain ⟨r0, r1, -, r3, r4⟩ := rowK_get Kv k x hx
      have k0 := (own_at18 HK.out.o r0).1
      have k1 := (own_at18 HK.out.o r1).1
      have k3 := (own_at18 HK.out.o r3).1
      have k4 := (own_at18 HK.out.o r4).1
      obtain ⟨eo, ec, hve⟩ := own_form hxo
      obtain ⟨mm, hmm⟩ : ∃ mm, mm = es.length := ⟨_, rfl⟩
      rw [← hmm] at hve
      rw [hve] at k4 hxo
      rw [hxa] at k0
      rw [hxt] at k1
      rw [hxe] at k3
      have hbd := HB.out d (List.mem_of_getElem? hd)
      have hPk : P[k]? = some (lkB (D.map DB.a) d.pb) := by rw [HP.out]; unfold lkD; rw [List.getElem?_map, List.getElem?_map, hd]; rfl
      have hPl : k < P.length := (List.getElem?_eq_some_iff.mp hPk).1
      obtain ⟨b, hb⟩ : ∃ b, b = lkB (D.map DB.a) d.pb := ⟨_, rfl⟩
      rw [← hb] at hPk
      have hBc : B = b :: P.drop (k + 1) := by
        rw [← HI.out.2.2.1, List.drop_eq_getElem_cons hPl]
        rw [List.getElem?_eq_getElem hPl] at hPk
        injection hPk with hPk
        rw [hPk]
      have hbt : b.t = d.t := by rw [hb]; rfl
      have hba : b.a = d.a := by rw [hb]; rfl
      have hbe : b.es = (prE d.en d.es).map (lkX (D.map DB.a)) := by rw [hb]; rfl
      have hms := HI.out.2.2.2.1
      rw [hBc] at hms
      have hrk := HI.out.2.1.r k (Nat.le_refl _) (by omega)
      have hat := HI.out.2.1.at1 (j := k) (by omega)
      obtain ⟨pb, hpb⟩ : ∃ pb, pb = X1.getD k 0 := ⟨_, rfl⟩
      obtain ⟨pm, hpm⟩ : ∃ pm, pm = X2.getD k 0 := ⟨_, rfl⟩
      obtain ⟨hM, hhM⟩ : ∃ hM, hM = pb + d.t := ⟨_, rfl⟩
      obtain ⟨hB, hhB⟩ : ∃ hB, hB = pm + 1 := ⟨_, rfl⟩
      have hms2 : (if F < hM then (0, d.a, 27) else msG F (P.drop (k + 1)) (k + 1) (b.es.foldl (upX hB hM) A) (max dp hB)) = msR F P := by
        rw [← hms]
        show _ = if F < (A.getD k (0, 0)).2 + b.t then _ else _
        rw [← hrk.1, ← hrk.2, ← hpb, ← hpm, hbt, hba, ← hhM, ← hhB]
      have HMs := hid13 hms2
      rw [← hpb, ← hpm] at hat
      obtain ⟨y1, yf1⟩ := HI.out.1.c1 (k := k) (by rw [HI.out.2.1.l1]; omega)
      obtain ⟨y2, yf2⟩ := HI.out.1.c2 (k := k) (by rw [HI.out.2.1.l2]; omega)
      rw [← hpb] at y1
      rw [← hpm] at y2
      have mM : IntKind.i64.wrap (pb + d.t) = hM := by rw [IntKind.wrap_i64, hhM]; have := HF0.out; omega
      have mB : IntKind.i64.wrap (pm + 1) = hB := by rw [IntKind.wrap_i64, hhB]; omega
      have mk : IntKind.i64.wrap ((k : Int) + 1) = ((k + 1 : Nat) : Int) := by rw [IntKind.wrap_i64]; omega
      have HD : Hid (D[k]? = some d ∧ es.map Prod.fst = d.es ∧ mm = es.length ∧ b.es = (prE d.en d.es).map (lkX (D.map DB.a)) ∧ b ∈ P) := ⟨hd, hxs, hmm, hbe, List.mem_of_getElem? hPk⟩
      have HBd := hid13 hbd
      have HKc : Hid (∀ X, Below w.heap.size w X → X.cell? ⟨g, k * 5, none⟩ = some (.int .i64 d.a) ∧ X.cell? ⟨g, k * 5 + 1, none⟩ = some (.int .i64 d.t) ∧ X.cell? ⟨g, k * 5 + 3, none⟩ = some (.int .i64 d.en) ∧ X.cell? ⟨g, k * 5 + 4, none⟩ = some (.slice eo mm ec)) := hid13 (fun X h => ⟨keepc h k0, keepc h k1, keepc h k3, keepc h k4⟩)
      have HEo := hid13 hxo
      have HBb : Hid (0 ≤ hB ∧ hB ≤ (k : Int) + 1 ∧ 0 ≤ hM) := ⟨by omega, by omega, by omega⟩
      have HM := hid13 HI.out.1
      have HR := hid13 HI.out.2.1
      have HDp : Hid (0 ≤ dp ∧ dp ≤ (k : Int)) := hid13 HI.out.2.2.2.2
      obtain ⟨GK, hGK⟩ : ∃ GK, GK = gk := ⟨_, rfl⟩
      have HJ : Hid (k + GK = n ∧ GK = gk ∧ k < n) := ⟨by omega, hGK, by omega⟩
      generalize hdt : d.t = bt at *
      generalize hda : d.a = ba at *
      generalize hde : d.en = be at *
      obtain ⟨c0, c1, c3, c4⟩ := HKc.out _ HI.out.1.b
      clear hkD hd hx hxa hxt hxe hxo hxs r0 r1 r3 r4 k0 k1 k3 k4 hve hmm hbd hPk hPl hb hBc hbt hba hbe hms hrk hat hpb hpm hhM hhB hms2 HI hGK hk hdt hda hde
      go_wp2_with fail
      refine qpw_region 13 (qpOk 13 13 (by decide) (fun N => by kernel_rfl) (by kernel_rfl) (by kernel_rfl) (by kernel_rfl) (by kernel_rfl)) (C := fun X => X = wr.drew) [some 26, some 27, some 28, some 29, some 30, some 31, some 32, some 33, some 34, some 35, some 36, some 37, some 38] [.slice (some ⟨Z1, 0, none⟩) n n, .int .i64 (k : Int), .slice (some ⟨Z1, 0, none⟩) n n, .int .i64 (k : Int), .pointer (some ⟨Z1, k, none⟩), .int .i64 pb, .slice (some ⟨g, 0, none⟩) n c, .int .i64 (k : Int), .pointer (some ⟨g, k * 5, none⟩), .pointer (some ⟨g, k * 5 + 1, none⟩), .int .i64 bt, .int .i64 hM, .pointer (some ⟨Z1, k, none⟩)] (by kernel_rfl) rfl ?walkq7 ?finq7
      case walkq7 =>
        refine qw_run (v := .slice (some ⟨Z1, 0, none⟩) n n) (by rfl) ?_ ?_
        · (intro w9 hC; subst hC; have y1' : wr.drew.cell? ⟨Z1, k, none⟩ = some (.int .i64 pb) := y1 ; have c1' : wr.drew.cell? ⟨g, k * 5 + 1, none⟩ = some (.int .i64 bt) := c1; go_simp; first | done | (simp; done) | (simp [*]; done) | omega | (simp; omega) | (rw [IntKind.wrap_i64]; omega) | (intro hx; omega) | rfl)
        simp only [Act.put, List.setIfInBounds_toArray, List.set_cons_zero, List.set_cons_succ]
        refine qw_run (v := .int .i64 (k : Int)) (by rfl) ?_ ?_
        · (intro w9 hC; subst hC; have y1' : wr.drew.cell? ⟨Z1, k, none⟩ = some (.int .i64 pb) := y1 ; have c1' : wr.drew.cell? ⟨g, k * 5 + 1, none⟩ = some (.int .i64 bt) := c1; go_simp; first | done | (simp; done) | (simp [*]; done) | omega | (simp; omega) | (rw [IntKind.wrap_i64]; omega) | (intro hx; omega) | rfl)
        simp only [Act.put, List.setIfInBounds_toArray, List.set_cons_zero, List.set_cons_succ]
        refine qw_run (v := .slice (some ⟨Z1, 0, none⟩) n n) (by rfl) ?_ ?_
        · (intro w9 hC; subst hC; have y1' : wr.drew.cell? ⟨Z1, k, none⟩ = some (.int .i64 pb) := y1 ; have c1' : wr.drew.cell? ⟨g, k * 5 + 1, none⟩ = some (.int .i64 bt) := c1; go_simp; first | done | (simp; done) | (simp [*]; done) | omega | (simp; omega) | (rw [IntKind.wrap_i64]; omega) | (intro hx; omega) | rfl)
        simp only [Act.put, List.setIfInBounds_toArray, List.set_cons_zero, List.set_cons_succ]
        refine qw_run (v := .int .i64 (k : Int)) (by rfl) ?_ ?_
        · (intro w9 hC; subst hC; have y1' : wr.drew.cell? ⟨Z1, k, none⟩ = some (.int .i64 pb) := y1 ; have c1' : wr.drew.cell? ⟨g, k * 5 + 1, none⟩ = some (.int .i64 bt) := c1; go_simp; first | done | (simp; done) | (simp [*]; done) | omega | (simp; omega) | (rw [IntKind.wrap_i64]; omega) | (intro hx; omega) | rfl)
        simp only [Act.put, List.setIfInBounds_toArray, List.set_cons_zero, List.set_cons_succ]
        refine qw_run (v := .pointer (some ⟨Z1, k, none⟩)) (by rfl) ?_ ?_
        · (intro w9 hC; subst hC; have y1' : wr.drew.cell? ⟨Z1, k, none⟩ = some (.int .i64 pb) := y1 ; have c1' : wr.drew.cell? ⟨g, k * 5 + 1, none⟩ = some (.int .i64 bt) := c1; go_simp; first | done | (simp; done) | (simp [*]; done) | omega | (simp; omega) | (rw [IntKind.wrap_i64]; omega) | (intro hx; omega) | rfl)
        simp only [Act.put, List.setIfInBounds_toArray, List.set_cons_zero, List.set_cons_succ]
        refine qw_run (v := .int .i64 pb) (by rfl) ?_ ?_
        · (intro w9 hC; subst hC; have y1' : wr.drew.cell? ⟨Z1, k, none⟩ = some (.int .i64 pb) := y1 ; have c1' : wr.drew.cell? ⟨g, k * 5 + 1, none⟩ = some (.int .i64 bt) := c1; go_simp; first | done | (simp; done) | (simp [*]; done) | omega | (simp; omega) | (rw [IntKind.wrap_i64]; omega) | (intro hx; omega) | rfl)
        simp only [Act.put, List.setIfInBounds_toArray, List.set_cons_zero, List.set_cons_succ]
        refine qw_run (v := .slice (some ⟨g, 0, none⟩) n c) (by rfl) ?_ ?_
        · (intro w9 hC; subst hC; have y1' : wr.drew.cell? ⟨Z1, k, none⟩ = some (.int .i64 pb) := y1 ; have c1' : wr.drew.cell? ⟨g, k * 5 + 1, none⟩ = some (.int .i64 bt) := c1; go_simp; first | done | (simp; done) | (simp [*]; done) | omega | (simp; omega) | (rw [IntKind.wrap_i64]; omega) | (intro hx; omega) | rfl)
        simp only [Act.put, List.setIfInBounds_toArray, List.set_cons_zero, List.set_cons_succ]
        refine qw_run (v := .int .i64 (k : Int)) (by rfl) ?_ ?_
        · (intro w9 hC; subst hC; have y1' : wr.drew.cell? ⟨Z1, k, none⟩ = some (.int .i64 pb) := y1 ; have c1' : wr.drew.cell? ⟨g, k * 5 + 1, none⟩ = some (.int .i64 bt) := c1; go_simp; first | done | (simp; done) | (simp [*]; done) | omega | (simp; omega) | (rw [IntKind.wrap_i64]; omega) | (intro hx; omega) | rfl)
        simp only [Act.put, List.setIfInBounds_toArray, List.set_cons_zero, List.set_cons_succ]
        refine qw_run (v := .pointer (some ⟨g, k * 5, none⟩)) (by rfl) ?_ ?_
        · (intro w9 hC; subst hC; have y1' : wr.drew.cell? ⟨Z1, k, none⟩ = some (.int .i64 pb) := y1 ; have c1' : wr.drew.cell? ⟨g, k * 5 + 1, none⟩ = some (.int .i64 bt) := c1; go_simp; first | done | (simp; done) | (simp [*]; done) | omega | (simp; omega) | (rw [IntKind.wrap_i64]; omega) | (intro hx; omega) | rfl)
        simp only [Act.put, List.setIfInBounds_toArray, List.set_cons_zero, List.set_cons_succ]
        refine qw_run (v := .pointer (some ⟨g, k * 5 + 1, none⟩)) (by rfl) ?_ ?_
        · (intro w9 hC; subst hC; have y1' : wr.drew.cell? ⟨Z1, k, none⟩ = some (.int .i64 pb) := y1 ; have c1' : wr.drew.cell? ⟨g, k * 5 + 1, none⟩ = some (.int .i64 bt) := c1; go_simp; first | done | (simp; done) | (simp [*]; done) | omega | (simp; omega) | (rw [IntKind.wrap_i64]; omega) | (intro hx; omega) | rfl)
        simp only [Act.put, List.setIfInBounds_toArray, List.set_cons_zero, List.set_cons_succ]
        refine qw_run (v := .int .i64 bt) (by rfl) ?_ ?_
        · (intro w9 hC; subst hC; have y1' : wr.drew.cell? ⟨Z1, k, none⟩ = some (.int .i64 pb) := y1 ; have c1' : wr.drew.cell? ⟨g, k * 5 + 1, none⟩ = some (.int .i64 bt) := c1; go_simp; first | done | (simp; done) | (simp [*]; done) | omega | (simp; omega) | (rw [IntKind.wrap_i64]; omega) | (intro hx; omega) | rfl)
        simp only [Act.put, List.setIfInBounds_toArray, List.set_cons_zero, List.set_cons_succ]
        refine qw_run (v := .int .i64 hM) (by rfl) ?_ ?_
        · (intro w9 hC; subst hC; have y1' : wr.drew.cell? ⟨Z1, k, none⟩ = some (.int .i64 pb) := y1 ; have c1' : wr.drew.cell? ⟨g, k * 5 + 1, none⟩ = some (.int .i64 bt) := c1; go_simp; first | done | (simp; done) | (simp [*]; done) | omega | (simp; omega) | (rw [IntKind.wrap_i64]; omega) | (intro hx; omega) | rfl)
        simp only [Act.put, List.setIfInBounds_toArray, List.set_cons_zero, List.set_cons_succ]
        refine qw_run (v := .pointer (some ⟨Z1, k, none⟩)) (by rfl) ?_ ?_
        · (intro w9 hC; subst hC; have y1' : wr.drew.cell? ⟨Z1, k, none⟩ = some (.int .i64 pb) := y1 ; have c1' : wr.drew.cell? ⟨g, k * 5 + 1, none⟩ = some (.int .i64 bt) := c1; go_simp; first | done | (simp; done) | (simp [*]; done) | omega | (simp; omega) | (rw [IntKind.wrap_i64]; omega) | (intro hx; omega) | rfl)
        simp only [Act.put, List.setIfInBounds_toArray, List.set_cons_zero, List.set_cons_succ]
        refine qw_nil ?_
        simp only [putAll, Act.put, List.setIfInBounds_toArray, List.set_cons_zero, List.set_cons_succ]
      case finq7 =>
        intro X hX
        subst hX
        simp only [putAll, Act.put, List.setIfInBounds_toArray, List.set_cons_zero, List.set_cons_succ]
        dsimp only [List.drop]
        have y1' : wr.drew.cell? ⟨Z1, k, none⟩ = some (.int .i64 pb) := y1
        have yf1' : wr.drew.frozen? ⟨Z1, k, none⟩ = false := yf1
        have HM2 := hid13 (HM.out.s1 k hM)
        obtain ⟨z2, zf2⟩ := HM2.out.c2 (k := k) (by rw [HR.out.l2]; have := HJ.out; omega)
        have e2 : X2.getD k 0 = pm := by
          have h9 := HM.out.c2 (k := k) (by rw [HR.out.l2]; have := HJ.out; omega)
          rw [y2] at h9
          have := h9.1
          injection this with this
          injection this with _ this
          exact this.symm
        rw [e2] at z2
        have HM3 := hid13 (HM2.out.s2 k hB)
        have HR3 := hid13 (fun (h : hM ≤ F) => HR.out.own (hB := hB) (hM := hM) ⟨HBb.out.2.2, h⟩ ⟨HBb.out.1, HBb.out.2.1⟩)
        obtain ⟨v1, -⟩ := HM3.out.c1 (k := k) (by rw [List.length_set, HR.out.l1]; have := HJ.out; omega)
        obtain ⟨v2, -⟩ := HM3.out.c2 (k := k) (by rw [List.length_set, HR.out.l2]; have := HJ.out; omega)
        have g1 : (X1.set k hM).getD k 0 = hM := by rw [getD_set18 _ _ _ _ _ (by rw [HR.out.l1]; have := HJ.out; omega), if_pos rfl]
        have g2 : (X2.set k hB).getD k 0 = hB := by rw [getD_set18 _ _ _ _ _ (by rw [HR.out.l2]; have := HJ.out; omega), if_pos rfl]
        rw [g1] at v1
        rw [g2] at v2
        have HG := hid13 (And.intro g1 g2)
        obtain ⟨w0, -, w3, w4⟩ := HKc.out _ HM3.out.b
        clear HM HM2 e2 y1 y2 yf1 yf2 c0 c1 c3 c4 g1 g2
        by_cases hf : F < hM
        · have HE : Hid (msR F P = (0, ba, 27)) := hid13 (by rw [← HMs.out, if_pos hf])
          clear HMs HR3 HR
          go_wp2_with fail
          go_region
          go_wp2
          exact bodyPost_ret (v := .tuple #[.slice none 0 0, .int .i64 0, .int .i64 ba, .int .i64 27]) (by simp [results, Try.results40, go_sem]) rfl ⟨_, by rw [← HP.out, HE.out], by first | exact HM3.out.b | exact HM3.out.b.drew | exact HM3.out.b.drew.drew, fun q => by rw [← HP.out, HE.out] at q; exact absurd q (by simp), fun _ => rfl⟩
        have HE : Hid (msG F (P.drop (k + 1)) (k + 1) (b.es.foldl (upX hB hM) A) (max dp hB) = msR F P) := hid13 (by rw [← HMs.out, if_neg hf])
        have HR4 := hid13 (HR3.out (by omega))
        have HhM : Hid (hM ≤ F) := by show _ ≤ _; omega
        have mx := fun w => max_16 dp hB w
        have HD2 : Hid (0 ≤ max dp hB ∧ max dp hB ≤ ((k + 1 : Nat) : Int)) := hid13 (by have := HDp.out; have := HBb.out; omega)
        obtain ⟨D2, hD2⟩ : ∃ D2, D2 = max dp hB := ⟨_, rfl⟩
        rw [← hD2] at mx HE HD2
        clear hD2 HMs HR3 HR
        go_wp2_with fail
        clear y1' yf1' z2 zf2 v1 v2 w0 mx
        replace HM3 := hid13 (HM3.out.below (Below.refl _ _).drew)
        revert HM3
        generalize ((wr.setCell ⟨Z1, k, none⟩ (.int .i64 hM)).setCell ⟨Z2, k, none⟩ (.int .i64 hB)).drew = V
        intro HM3
        clear w3 w4
        go_loopg [12] mm (fun gk jv wr => ∃ (j : Nat) (X1 X2 : List Int), j + gk = mm ∧ jv = .int .i64 (j : Int) ∧ Hid (WyM w Z1 Z2 X1 X2 wr ∧ WyR n (k + 1) F ((k : Int) + 1) ((b.es.take j).foldl (upX hB hM) A) X1 X2 ∧ X1.getD k 0 = hM ∧ X2.getD k 0 = hB))
        case atStart => exact ⟨0, _, _, by omega, rfl, hid13 ⟨HM3.out, HR4.out, HG.out.1, HG.out.2⟩⟩
        case round =>
          clear HM3 HR4 HG
          obtain ⟨j, X1, X2, hk2, rfl, HJ2⟩ := hrel
          obtain ⟨-, -, w3, w4⟩ := HKc.out _ HJ2.out.1.b
          by_cases hlt2 : (j : Int) < (mm : Int)
          · have hjl : j < es.length := by have := HD.out.2.2.1; omega
            obtain ⟨⟨⟨eop, enn⟩, eu⟩, he⟩ : ∃ e, es[j]? = some e := ⟨_, List.getElem?_eq_getElem hjl⟩
            have hed : d.es[j]? = some (eop, enn) := by rw [← HD.out.2.1, List.getElem?_map, he]; rfl
            have heb := HBd.out.2.2.2 (eop, enn) (List.mem_of_getElem? hed)
            dsimp only at heb
            have hEo := HEo.out
            rw [← HD.out.2.2.1] at hEo
            obtain ⟨eg, ecc, hee, -⟩ := own_some18 hEo (by omega)
            injection hee with he1 he2 he3
            subst he1
            obtain ⟨r0, r1, -⟩ := rowE_get es j _ he
            have HE0 := hid13 (own_at18 hEo r0).1
            have HE1 := hid13 (own_at18 hEo r1).1
            have k0 := keepc HJ2.out.1.b HE0.out
            dsimp only at k0 HE1
            have htk : b.es.take (j + 1) = b.es.take j ++ [lkX (D.map DB.a) (prX (be + (j : Int)) (eop, enn))] := by
              rw [List.take_add_one]
              have : b.es[j]? = some (lkX (D.map DB.a) (prX (be + (j : Int)) (eop, enn))) := by
                rw [HD.out.2.2.2.1, List.getElem?_map]
                rw [prE_get be d.es j _ hed]; rfl
              rw [this]; rfl
            have hin : lkX (D.map DB.a) (prX (be + (j : Int)) (eop, enn)) ∈ b.es := by
              refine List.mem_of_mem_take (i := j + 1) ?_
              rw [htk]; simp
            have mj : IntKind.i64.wrap ((j : Int) + 1) = ((j + 1 : Nat) : Int) := by rw [IntKind.wrap_i64]; have := HBd.out.2.2.1; have := HD.out; have := congrArg List.length HD.out.2.1; rw [List.length_map] at this; push_cast; omega
            have HK2 : Hid (j + gk = mm ∧ j < mm) := ⟨hk2, by omega⟩
            have hjb : (j : Int) ≤ 100000000 := by have := HBd.out.2.2.1; have := congrArg List.length HD.out.2.1; rw [List.length_map] at this; omega
            by_cases hop : eop = 3
            · have hb3 : (eop == 3) = true := by simpa using hop
              have hln := HLk.out b HD.out.2.2.2.2 _ hin
              have hlx : lkX (D.map DB.a) (prX (be + (j : Int)) (eop, enn)) = (true, fnB (D.map DB.a) (be + (j : Int) + enn)) := by
                unfold lkX prX
                dsimp only
                rw [hb3]
                simp
              rw [hlx] at hln htk
              obtain ⟨h5, h6⟩ := hln rfl
              dsimp only at h5 h6
              obtain ⟨tt, htt⟩ : ∃ tt : Nat, fnB (D.map DB.a) (be + (j : Int) + enn) = (tt : Int) := ⟨(fnB (D.map DB.a) (be + (j : Int) + enn)).toNat, by omega⟩
              rw [htt] at htk h6
              have htn : tt < n := by have := HN.out; omega
              have htni : (tt : Int) < (n : Int) := by omega
              have HT := hid13 htk
              have KF := fun W (h : Below w.heap.size w W) => KFi W h (be + (j : Int) + enn)
              rw [htt] at KF
              have mp1 : IntKind.i64.wrap (be + (j : Int)) = be + (j : Int) := by rw [IntKind.wrap_i64]; have := HBd.out.2.1; omega
              have mp2 : IntKind.i64.wrap (be + (j : Int) + enn) = be + (j : Int) + enn := by rw [IntKind.wrap_i64]; have := HBd.out.2.1; omega
              have HU := hid13 (HJ2.out.2.1.up (tt := tt) HJ.out.2.2 HJ2.out.2.2.1 HJ2.out.2.2.2 htn)
              have HMw := hid13 HJ2.out.1
              have HXl : Hid (X1.length = n ∧ X2.length = n ∧ X1.getD k 0 = hM ∧ X2.getD k 0 = hB ∧ k < n ∧ tt < n) := ⟨HJ2.out.2.1.l1, HJ2.out.2.1.l2, HJ2.out.2.2.1, HJ2.out.2.2.2, HJ.out.2.2, htn⟩
              have hkni : (k : Int) < (n : Int) := hlt
              have hjmi : (j : Int) < (mm : Int) := hlt2
              obtain ⟨x1, hx1⟩ : ∃ x, x = X1.getD tt 0 := ⟨_, rfl⟩
              obtain ⟨x2, hx2⟩ : ∃ x, x = X2.getD tt 0 := ⟨_, rfl⟩
              obtain ⟨m1, hm1⟩ : ∃ m, m = max x1 hM := ⟨_, rfl⟩
              obtain ⟨m2, hm2⟩ : ∃ m, m = max x2 hB := ⟨_, rfl⟩
              have mx1 := fun w => max_16 x1 hM w
              have mx2 := fun w => max_16 x2 hB w
              rw [← hx1, ← hx2, ← hm1, ← hm2] at HU
              rw [← hm1] at mx1
              rw [← hm2] at mx2
              have HX12 : Hid (X1.getD tt 0 = x1 ∧ X2.getD tt 0 = x2) := ⟨hx1.symm, hx2.symm⟩
              clear hjl he hed heb hEo he2 he3 r0 r1 htk hin hlx h5 h6 htt HJ2 hk2 hln htn hop hx1 hx2 hm1 hm2
              go_wp2_with fail
              clear k0 w3 w4
              refine qw_region (C := fun X => WyM w Z1 Z2 X1 X2 X) (by kernel_rfl) (by kernel_rfl) (HMw.out.below (Below.refl _ _).drew) ?_
              refine qw_run (v := .slice (some ⟨g, 0, none⟩) n c) (by rfl) ?_ ?_
              · (intro w9 hC; clear hC; go_simp; first | done | (simp; done) | (simp [*]; done) | omega | (simp; omega) | (rw [IntKind.wrap_i64]; omega) | (intro hx; omega) | rfl)
              simp only [Act.put, List.setIfInBounds_toArray, List.set_cons_zero, List.set_cons_succ]
              refine qw_run (v := .slice (some ⟨g, 0, none⟩) n c) (by rfl) ?_ ?_
              · (intro w9 hC; clear hC; go_simp; first | done | (simp; done) | (simp [*]; done) | omega | (simp; omega) | (rw [IntKind.wrap_i64]; omega) | (intro hx; omega) | rfl)
              simp only [Act.put, List.setIfInBounds_toArray, List.set_cons_zero, List.set_cons_succ]
              refine qw_run (v := .int .i64 (k : Int)) (by rfl) ?_ ?_
              · (intro w9 hC; clear hC; go_simp; first | done | (simp; done) | (simp [*]; done) | omega | (simp; omega) | (rw [IntKind.wrap_i64]; omega) | (intro hx; omega) | rfl)
              simp only [Act.put, List.setIfInBounds_toArray, List.set_cons_zero, List.set_cons_succ]
              refine qw_run (v := .pointer (some ⟨g, k * 5, none⟩)) (by rfl) ?_ ?_
              · (intro w9 hC; clear hC; go_simp; first | done | (simp; done) | (simp [*]; done) | omega | (simp; omega) | (rw [IntKind.wrap_i64]; omega) | (intro hx; omega) | rfl)
              simp only [Act.put, List.setIfInBounds_toArray, List.set_cons_zero, List.set_cons_succ]
              refine qw_run (v := .pointer (some ⟨g, k * 5 + 3, none⟩)) (by rfl) ?_ ?_
              · (intro w9 hC; clear hC; go_simp; first | done | (simp; done) | (simp [*]; done) | omega | (simp; omega) | (rw [IntKind.wrap_i64]; omega) | (intro hx; omega) | rfl)
              simp only [Act.put, List.setIfInBounds_toArray, List.set_cons_zero, List.set_cons_succ]
              refine qw_run (v := .int .i64 be) (by rfl) ?_ ?_
              · (intro w9 hC; obtain ⟨-, -, w3, w4⟩ := HKc.out _ hC.b; clear hC; go_simp; first | done | (simp; done) | (simp [*]; done) | omega | (simp; omega) | (rw [IntKind.wrap_i64]; omega) | (intro hx; omega) | rfl)
              simp only [Act.put, List.setIfInBounds_toArray, List.set_cons_zero, List.set_cons_succ]
              refine qw_run (v := .int .i64 (j : Int)) (by rfl) ?_ ?_
              · (intro w9 hC; clear hC; go_simp; first | done | (simp; done) | (simp [*]; done) | omega | (simp; omega) | (rw [IntKind.wrap_i64]; omega) | (intro hx; omega) | rfl)
              simp only [Act.put, List.setIfInBounds_toArray, List.set_cons_zero, List.set_cons_succ]
              refine qw_run (v := .int .i64 (be + (j : Int))) (by rfl) ?_ ?_
              · (intro w9 hC; clear hC; go_simp; first | done | (simp; done) | (simp [*]; done) | omega | (simp; omega) | (rw [IntKind.wrap_i64]; omega) | (intro hx; omega) | rfl)
              simp only [Act.put, List.setIfInBounds_toArray, List.set_cons_zero, List.set_cons_succ]
              refine qw_run (v := .slice (some ⟨g, 0, none⟩) n c) (by rfl) ?_ ?_
              · (intro w9 hC; clear hC; go_simp; first | done | (simp; done) | (simp [*]; done) | omega | (simp; omega) | (rw [IntKind.wrap_i64]; omega) | (intro hx; omega) | rfl)
              simp only [Act.put, List.setIfInBounds_toArray, List.set_cons_zero, List.set_cons_succ]
              refine qw_run (v := .int .i64 (k : Int)) (by rfl) ?_ ?_
              · (intro w9 hC; clear hC; go_simp; first | done | (simp; done) | (simp [*]; done) | omega | (simp; omega) | (rw [IntKind.wrap_i64]; omega) | (intro hx; omega) | rfl)
              simp only [Act.put, List.setIfInBounds_toArray, List.set_cons_zero, List.set_cons_succ]
              refine qw_run (v := .pointer (some ⟨g, k * 5, none⟩)) (by rfl) ?_ ?_
              · (intro w9 hC; clear hC; go_simp; first | done | (simp; done) | (simp [*]; done) | omega | (simp; omega) | (rw [IntKind.wrap_i64]; omega) | (intro hx; omega) | rfl)
              simp only [Act.put, List.setIfInBounds_toArray, List.set_cons_zero, List.set_cons_succ]
              refine qw_run (v := .pointer (some ⟨g, k * 5 + 4, none⟩)) (by rfl) ?_ ?_
              · (intro w9 hC; clear hC; go_simp; first | done | (simp; done) | (simp [*]; done) | omega | (simp; omega) | (rw [IntKind.wrap_i64]; omega) | (intro hx; omega) | rfl)
              simp only [Act.put, List.setIfInBounds_toArray, List.set_cons_zero, List.set_cons_succ]
              refine qw_run (v := .slice (some ⟨eg, 0, none⟩) mm ec) (by rfl) ?_ ?_
              · (intro w9 hC; obtain ⟨-, -, w3, w4⟩ := HKc.out _ hC.b; clear hC; go_simp; first | done | (simp; done) | (simp [*]; done) | omega | (simp; omega) | (rw [IntKind.wrap_i64]; omega) | (intro hx; omega) | rfl)
              simp only [Act.put, List.setIfInBounds_toArray, List.set_cons_zero, List.set_cons_succ]
              refine qw_run (v := .int .i64 (j : Int)) (by rfl) ?_ ?_
              · (intro w9 hC; clear hC; go_simp; first | done | (simp; done) | (simp [*]; done) | omega | (simp; omega) | (rw [IntKind.wrap_i64]; omega) | (intro hx; omega) | rfl)
              simp only [Act.put, List.setIfInBounds_toArray, List.set_cons_zero, List.set_cons_succ]
              refine qw_run (v := .pointer (some ⟨eg, j * 3, none⟩)) (by rfl) ?_ ?_
              · (intro w9 hC; clear hC; go_simp; first | done | (simp; done) | (simp [*]; done) | omega | (simp; omega) | (rw [IntKind.wrap_i64]; omega) | (intro hx; omega) | rfl)
              simp only [Act.put, List.setIfInBounds_toArray, List.set_cons_zero, List.set_cons_succ]
              refine qw_run (v := .pointer (some ⟨eg, j * 3 + 1, none⟩)) (by rfl) ?_ ?_
              · (intro w9 hC; clear hC; go_simp; first | done | (simp; done) | (simp [*]; done) | omega | (simp; omega) | (rw [IntKind.wrap_i64]; omega) | (intro hx; omega) | rfl)
              simp only [Act.put, List.setIfInBounds_toArray, List.set_cons_zero, List.set_cons_succ]
              refine qw_run (v := .int .i64 enn) (by rfl) ?_ ?_
              · (intro w9 hC; have q1 := keepc hC.b HE1.out; clear hC; go_simp; first | done | (simp; done) | (simp [*]; done) | omega | (simp; omega) | (rw [IntKind.wrap_i64]; omega) | (intro hx; omega) | rfl)
              simp only [Act.put, List.setIfInBounds_toArray, List.set_cons_zero, List.set_cons_succ]
              refine qw_run (v := .int .i64 (be + (j : Int) + enn)) (by rfl) ?_ ?_
              · (intro w9 hC; clear hC; go_simp; first | done | (simp; done) | (simp [*]; done) | omega | (simp; omega) | (rw [IntKind.wrap_i64]; omega) | (intro hx; omega) | rfl)
              simp only [Act.put, List.setIfInBounds_toArray, List.set_cons_zero, List.set_cons_succ]
              refine qw_call (v := .int .i64 (tt : Int)) (f := 27) (args := #[.slice (some ⟨g, 0, none⟩) n c, .int .i64 (be + (j : Int) + enn)]) (by rfl) ?_ ?_ ?_
              · (intro w9 hC; clear hC; go_simp; first | done | (simp; done) | rfl)
              · exact fun w9 hC => (KF w9 hC.b).mono fun e w' ⟨he, hb⟩ => ⟨he, by rw [hb]; exact hC⟩
              simp only [Act.put, List.setIfInBounds_toArray, List.set_cons_zero, List.set_cons_succ]
              refine qw_run (v := .int .i64 (tt : Int)) (by rfl) ?_ ?_
              · (intro w9 hC; clear hC; go_simp; first | done | (simp; done) | (simp [*]; done) | omega | (simp; omega) | (rw [IntKind.wrap_i64]; omega) | (intro hx; omega) | rfl)
              simp only [Act.put, List.setIfInBounds_toArray, List.set_cons_zero, List.set_cons_succ]
              refine qw_nil ?_
              intro Y1 hY1
              clear KF mp1 mp2 HMw
              go_wp2_with fail
              refine qpw_region 12 (qpOk 12 12 (by decide) (fun N => by kernel_rfl) (by kernel_rfl) (by kernel_rfl) (by kernel_rfl) (by kernel_rfl)) (C := fun X => WyM w Z1 Z2 X1 X2 X) [some 101, some 102, some 103, some 104, some 105, some 106, some 107, some 108, some 109, some 110, some 111, some 112] [.slice (some ⟨Z1, 0, none⟩) n n, .int .i64 (tt : Int), .slice (some ⟨Z1, 0, none⟩) n n, .int .i64 (tt : Int), .pointer (some ⟨Z1, tt, none⟩), .int .i64 x1, .slice (some ⟨Z1, 0, none⟩) n n, .int .i64 (k : Int), .pointer (some ⟨Z1, k, none⟩), .int .i64 hM, .int .i64 m1, .pointer (some ⟨Z1, tt, none⟩)] (by kernel_rfl) (hY1.below (Below.refl _ _).drew) ?walkq17 ?finq17
              case walkq17 =>
                refine qw_run (v := .slice (some ⟨Z1, 0, none⟩) n n) (by rfl) ?_ ?_
                · (intro w9 hC; have a1 := (hC.c1 (k := tt) (by have := HXl.out; omega)).1; rw [HX12.out.1] at a1; have a2 := (hC.c1 (k := k) (by have := HXl.out; omega)).1; rw [HXl.out.2.2.1] at a2; clear hC; go_simp; first | done | (simp; done) | (simp [*]; done) | omega | (simp; omega) | (rw [IntKind.wrap_i64]; omega) | (intro hx; omega) | rfl)
                simp only [Act.put, List.setIfInBounds_toArray, List.set_cons_zero, List.set_cons_succ]
                refine qw_run (v := .int .i64 (tt : Int)) (by rfl) ?_ ?_
                · (intro w9 hC; have a1 := (hC.c1 (k := tt) (by have := HXl.out; omega)).1; rw [HX12.out.1] at a1; have a2 := (hC.c1 (k := k) (by have := HXl.out; omega)).1; rw [HXl.out.2.2.1] at a2; clear hC; go_simp; first | done | (simp; done) | (simp [*]; done) | omega | (simp; omega) | (rw [IntKind.wrap_i64]; omega) | (intro hx; omega) | rfl)
                simp only [Act.put, List.setIfInBounds_toArray, List.set_cons_zero, List.set_cons_succ]
                refine qw_run (v := .slice (some ⟨Z1, 0, none⟩) n n) (by rfl) ?_ ?_
                · (intro w9 hC; have a1 := (hC.c1 (k := tt) (by have := HXl.out; omega)).1; rw [HX12.out.1] at a1; have a2 := (hC.c1 (k := k) (by have := HXl.out; omega)).1; rw [HXl.out.2.2.1] at a2; clear hC; go_simp; first | done | (simp; done) | (simp [*]; done) | omega | (simp; omega) | (rw [IntKind.wrap_i64]; omega) | (intro hx; omega) | rfl)
                simp only [Act.put, List.setIfInBounds_toArray, List.set_cons_zero, List.set_cons_succ]
                refine qw_run (v := .int .i64 (tt : Int)) (by rfl) ?_ ?_
                · (intro w9 hC; have a1 := (hC.c1 (k := tt) (by have := HXl.out; omega)).1; rw [HX12.out.1] at a1; have a2 := (hC.c1 (k := k) (by have := HXl.out; omega)).1; rw [HXl.out.2.2.1] at a2; clear hC; go_simp; first | done | (simp; done) | (simp [*]; done) | omega | (simp; omega) | (rw [IntKind.wrap_i64]; omega) | (intro hx; omega) | rfl)
                simp only [Act.put, List.setIfInBounds_toArray, List.set_cons_zero, List.set_cons_succ]
                refine qw_run (v := .pointer (some ⟨Z1, tt, none⟩)) (by rfl) ?_ ?_
                · (intro w9 hC; have a1 := (hC.c1 (k := tt) (by have := HXl.out; omega)).1; rw [HX12.out.1] at a1; have a2 := (hC.c1 (k := k) (by have := HXl.out; omega)).1; rw [HXl.out.2.2.1] at a2; clear hC; go_simp; first | done | (simp; done) | (simp [*]; done) | omega | (simp; omega) | (rw [IntKind.wrap_i64]; omega) | (intro hx; omega) | rfl)
                simp only [Act.put, List.setIfInBounds_toArray, List.set_cons_zero, List.set_cons_succ]
                refine qw_run (v := .int .i64 x1) (by rfl) ?_ ?_
                · (intro w9 hC; have a1 := (hC.c1 (k := tt) (by have := HXl.out; omega)).1; rw [HX12.out.1] at a1; have a2 := (hC.c1 (k := k) (by have := HXl.out; omega)).1; rw [HXl.out.2.2.1] at a2; clear hC; go_simp; first | done | (simp; done) | (simp [*]; done) | omega | (simp; omega) | (rw [IntKind.wrap_i64]; omega) | (intro hx; omega) | rfl)
                simp only [Act.put, List.setIfInBounds_toArray, List.set_cons_zero, List.set_cons_succ]
                refine qw_run (v := .slice (some ⟨Z1, 0, none⟩) n n) (by rfl) ?_ ?_
                · (intro w9 hC; have a1 := (hC.c1 (k := tt) (by have := HXl.out; omega)).1; rw [HX12.out.1] at a1; have a2 := (hC.c1 (k := k) (by have := HXl.out; omega)).1; rw [HXl.out.2.2.1] at a2; clear hC; go_simp; first | done | (simp; done) | (simp [*]; done) | omega | (simp; omega) | (rw [IntKind.wrap_i64]; omega) | (intro hx; omega) | rfl)
                simp only [Act.put, List.setIfInBounds_toArray, List.set_cons_zero, List.set_cons_succ]
                refine qw_run (v := .int .i64 (k : Int)) (by rfl) ?_ ?_
                · (intro w9 hC; have a1 := (hC.c1 (k := tt) (by have := HXl.out; omega)).1; rw [HX12.out.1] at a1; have a2 := (hC.c1 (k := k) (by have := HXl.out; omega)).1; rw [HXl.out.2.2.1] at a2; clear hC; go_simp; first | done | (simp; done) | (simp [*]; done) | omega | (simp; omega) | (rw [IntKind.wrap_i64]; omega) | (intro hx; omega) | rfl)
                simp only [Act.put, List.setIfInBounds_toArray, List.set_cons_zero, List.set_cons_succ]
                refine qw_run (v := .pointer (some ⟨Z1, k, none⟩)) (by rfl) ?_ ?_
                · (intro w9 hC; have a1 := (hC.c1 (k := tt) (by have := HXl.out; omega)).1; rw [HX12.out.1] at a1; have a2 := (hC.c1 (k := k) (by have := HXl.out; omega)).1; rw [HXl.out.2.2.1] at a2; clear hC; go_simp; first | done | (simp; done) | (simp [*]; done) | omega | (simp; omega) | (rw [IntKind.wrap_i64]; omega) | (intro hx; omega) | rfl)
                simp only [Act.put, List.setIfInBounds_toArray, List.set_cons_zero, List.set_cons_succ]
                refine qw_run (v := .int .i64 hM) (by rfl) ?_ ?_
                · (intro w9 hC; have a1 := (hC.c1 (k := tt) (by have := HXl.out; omega)).1; rw [HX12.out.1] at a1; have a2 := (hC.c1 (k := k) (by have := HXl.out; omega)).1; rw [HXl.out.2.2.1] at a2; clear hC; go_simp; first | done | (simp; done) | (simp [*]; done) | omega | (simp; omega) | (rw [IntKind.wrap_i64]; omega) | (intro hx; omega) | rfl)
                simp only [Act.put, List.setIfInBounds_toArray, List.set_cons_zero, List.set_cons_succ]
                refine qw_run (v := .int .i64 m1) (by rfl) ?_ ?_
                · (intro w9 hC; have a1 := (hC.c1 (k := tt) (by have := HXl.out; omega)).1; rw [HX12.out.1] at a1; have a2 := (hC.c1 (k := k) (by have := HXl.out; omega)).1; rw [HXl.out.2.2.1] at a2; clear hC; go_simp; first | done | (simp; done) | (simp [*]; done) | omega | (simp; omega) | (rw [IntKind.wrap_i64]; omega) | (intro hx; omega) | rfl)
                simp only [Act.put, List.setIfInBounds_toArray, List.set_cons_zero, List.set_cons_succ]
                refine qw_run (v := .pointer (some ⟨Z1, tt, none⟩)) (by rfl) ?_ ?_
                · (intro w9 hC; have a1 := (hC.c1 (k := tt) (by have := HXl.out; omega)).1; rw [HX12.out.1] at a1; have a2 := (hC.c1 (k := k) (by have := HXl.out; omega)).1; rw [HXl.out.2.2.1] at a2; clear hC; go_simp; first | done | (simp; done) | (simp [*]; done) | omega | (simp; omega) | (rw [IntKind.wrap_i64]; omega) | (intro hx; omega) | rfl)
                simp only [Act.put, List.setIfInBounds_toArray, List.set_cons_zero, List.set_cons_succ]
                refine qw_nil ?_
                simp only [putAll, Act.put, List.setIfInBounds_toArray, List.set_cons_zero, List.set_cons_succ]
              case finq17 =>
                intro Y2 hY2
                simp only [putAll, Act.put, List.setIfInBounds_toArray, List.set_cons_zero, List.set_cons_succ]
                dsimp only [List.drop]
                obtain ⟨a1, af1⟩ := hY2.c1 (k := tt) (by have := HXl.out; omega)
                rw [HX12.out.1] at a1
                have hY3 := hY2.s1 tt m1
                have HY3 := hid13 hY3
                clear hY1 hY2
                go_wp2_with fail
                clear a1 af1 hY3
                refine qpw_region 12 (qpOk 12 12 (by decide) (fun N => by kernel_rfl) (by kernel_rfl) (by kernel_rfl) (by kernel_rfl) (by kernel_rfl)) (C := fun X => WyM w Z1 Z2 (X1.set tt m1) X2 X) [some 113, some 114, some 115, some 116, some 117, some 118, some 119, some 120, some 121, some 122, some 123, some 124] [.slice (some ⟨Z2, 0, none⟩) n n, .int .i64 (tt : Int), .slice (some ⟨Z2, 0, none⟩) n n, .int .i64 (tt : Int), .pointer (some ⟨Z2, tt, none⟩), .int .i64 x2, .slice (some ⟨Z2, 0, none⟩) n n, .int .i64 (k : Int), .pointer (some ⟨Z2, k, none⟩), .int .i64 hB, .int .i64 m2, .pointer (some ⟨Z2, tt, none⟩)] (by kernel_rfl) (HY3.out.below (Below.refl _ _).drew) ?walkq18 ?finq18
                case walkq18 =>
                  refine qw_run (v := .slice (some ⟨Z2, 0, none⟩) n n) (by rfl) ?_ ?_
                  · (intro w9 hC; have a1 := (hC.c2 (k := tt) (by have := HXl.out; omega)).1; rw [HX12.out.2] at a1; have a2 := (hC.c2 (k := k) (by have := HXl.out; omega)).1; rw [HXl.out.2.2.2.1] at a2; clear hC; go_simp; first | done | (simp; done) | (simp [*]; done) | omega | (simp; omega) | (rw [IntKind.wrap_i64]; omega) | (intro hx; omega) | rfl)
                  simp only [Act.put, List.setIfInBounds_toArray, List.set_cons_zero, List.set_cons_succ]
                  refine qw_run (v := .int .i64 (tt : Int)) (by rfl) ?_ ?_
                  · (intro w9 hC; have a1 := (hC.c2 (k := tt) (by have := HXl.out; omega)).1; rw [HX12.out.2] at a1; have a2 := (hC.c2 (k := k) (by have := HXl.out; omega)).1; rw [HXl.out.2.2.2.1] at a2; clear hC; go_simp; first | done | (simp; done) | (simp [*]; done) | omega | (simp; omega) | (rw [IntKind.wrap_i64]; omega) | (intro hx; omega) | rfl)
                  simp only [Act.put, List.setIfInBounds_toArray, List.set_cons_zero, List.set_cons_succ]
                  refine qw_run (v := .slice (some ⟨Z2, 0, none⟩) n n) (by rfl) ?_ ?_
                  · (intro w9 hC; have a1 := (hC.c2 (k := tt) (by have := HXl.out; omega)).1; rw [HX12.out.2] at a1; have a2 := (hC.c2 (k := k) (by have := HXl.out; omega)).1; rw [HXl.out.2.2.2.1] at a2; clear hC; go_simp; first | done | (simp; done) | (simp [*]; done) | omega | (simp; omega) | (rw [IntKind.wrap_i64]; omega) | (intro hx; omega) | rfl)
                  simp only [Act.put, List.setIfInBounds_toArray, List.set_cons_zero, List.set_cons_succ]
                  refine qw_run (v := .int .i64 (tt : Int)) (by rfl) ?_ ?_
                  · (intro w9 hC; have a1 := (hC.c2 (k := tt) (by have := HXl.out; omega)).1; rw [HX12.out.2] at a1; have a2 := (hC.c2 (k := k) (by have := HXl.out; omega)).1; rw [HXl.out.2.2.2.1] at a2; clear hC; go_simp; first | done | (simp; done) | (simp [*]; done) | omega | (simp; omega) | (rw [IntKind.wrap_i64]; omega) | (intro hx; omega) | rfl)
                  simp only [Act.put, List.setIfInBounds_toArray, List.set_cons_zero, List.set_cons_succ]
                  refine qw_run (v := .pointer (some ⟨Z2, tt, none⟩)) (by rfl) ?_ ?_
                  · (intro w9 hC; have a1 := (hC.c2 (k := tt) (by have := HXl.out; omega)).1; rw [HX12.out.2] at a1; have a2 := (hC.c2 (k := k) (by have := HXl.out; omega)).1; rw [HXl.out.2.2.2.1] at a2; clear hC; go_simp; first | done | (simp; done) | (simp [*]; done) | omega | (simp; omega) | (rw [IntKind.wrap_i64]; omega) | (intro hx; omega) | rfl)
                  simp only [Act.put, List.setIfInBounds_toArray, List.set_cons_zero, List.set_cons_succ]
                  refine qw_run (v := .int .i64 x2) (by rfl) ?_ ?_
                  · (intro w9 hC; have a1 := (hC.c2 (k := tt) (by have := HXl.out; omega)).1; rw [HX12.out.2] at a1; have a2 := (hC.c2 (k := k) (by have := HXl.out; omega)).1; rw [HXl.out.2.2.2.1] at a2; clear hC; go_simp; first | done | (simp; done) | (simp [*]; done) | omega | (simp; omega) | (rw [IntKind.wrap_i64]; omega) | (intro hx; omega) | rfl)
                  simp only [Act.put, List.setIfInBounds_toArray, List.set_cons_zero, List.set_cons_succ]
                  refine qw_run (v := .slice (some ⟨Z2, 0, none⟩) n n) (by rfl) ?_ ?_
                  · (intro w9 hC; have a1 := (hC.c2 (k := tt) (by have := HXl.out; omega)).1; rw [HX12.out.2] at a1; have a2 := (hC.c2 (k := k) (by have := HXl.out; omega)).1; rw [HXl.out.2.2.2.1] at a2; clear hC; go_simp; first | done | (simp; done) | (simp [*]; done) | omega | (simp; omega) | (rw [IntKind.wrap_i64]; omega) | (intro hx; omega) | rfl)
                  simp only [Act.put, List.setIfInBounds_toArray, List.set_cons_zero, List.set_cons_succ]
                  refine qw_run (v := .int .i64 (k : Int)) (by rfl) ?_ ?_
                  · (intro w9 hC; have a1 := (hC.c2 (k := tt) (by have := HXl.out; omega)).1; rw [HX12.out.2] at a1; have a2 := (hC.c2 (k := k) (by have := HXl.out; omega)).1; rw [HXl.out.2.2.2.1] at a2; clear hC; go_simp; first | done | (simp; done) | (simp [*]; done) | omega | (simp; omega) | (rw [IntKind.wrap_i64]; omega) | (intro hx; omega) | rfl)
                  simp only [Act.put, List.setIfInBounds_toArray, List.set_cons_zero, List.set_cons_succ]
                  refine qw_run (v := .pointer (some ⟨Z2, k, none⟩)) (by rfl) ?_ ?_
                  · (intro w9 hC; have a1 := (hC.c2 (k := tt) (by have := HXl.out; omega)).1; rw [HX12.out.2] at a1; have a2 := (hC.c2 (k := k) (by have := HXl.out; omega)).1; rw [HXl.out.2.2.2.1] at a2; clear hC; go_simp; first | done | (simp; done) | (simp [*]; done) | omega | (simp; omega) | (rw [IntKind.wrap_i64]; omega) | (intro hx; omega) | rfl)
                  simp only [Act.put, List.setIfInBounds_toArray, List.set_cons_zero, List.set_cons_succ]
                  refine qw_run (v := .int .i64 hB) (by rfl) ?_ ?_
                  · (intro w9 hC; have a1 := (hC.c2 (k := tt) (by have := HXl.out; omega)).1; rw [HX12.out.2] at a1; have a2 := (hC.c2 (k := k) (by have := HXl.out; omega)).1; rw [HXl.out.2.2.2.1] at a2; clear hC; go_simp; first | done | (simp; done) | (simp [*]; done) | omega | (simp; omega) | (rw [IntKind.wrap_i64]; omega) | (intro hx; omega) | rfl)
                  simp only [Act.put, List.setIfInBounds_toArray, List.set_cons_zero, List.set_cons_succ]
                  refine qw_run (v := .int .i64 m2) (by rfl) ?_ ?_
                  · (intro w9 hC; have a1 := (hC.c2 (k := tt) (by have := HXl.out; omega)).1; rw [HX12.out.2] at a1; have a2 := (hC.c2 (k := k) (by have := HXl.out; omega)).1; rw [HXl.out.2.2.2.1] at a2; clear hC; go_simp; first | done | (simp; done) | (simp [*]; done) | omega | (simp; omega) | (rw [IntKind.wrap_i64]; omega) | (intro hx; omega) | rfl)
                  simp only [Act.put, List.setIfInBounds_toArray, List.set_cons_zero, List.set_cons_succ]
                  refine qw_run (v := .pointer (some ⟨Z2, tt, none⟩)) (by rfl) ?_ ?_
                  · (intro w9 hC; have a1 := (hC.c2 (k := tt) (by have := HXl.out; omega)).1; rw [HX12.out.2] at a1; have a2 := (hC.c2 (k := k) (by have := HXl.out; omega)).1; rw [HXl.out.2.2.2.1] at a2; clear hC; go_simp; first | done | (simp; done) | (simp [*]; done) | omega | (simp; omega) | (rw [IntKind.wrap_i64]; omega) | (intro hx; omega) | rfl)
                  simp only [Act.put, List.setIfInBounds_toArray, List.set_cons_zero, List.set_cons_succ]
                  refine qw_nil ?_
                  simp only [putAll, Act.put, List.setIfInBounds_toArray, List.set_cons_zero, List.set_cons_succ]
                case finq18 =>
                  intro Y4 hY4
                  simp only [putAll, Act.put, List.setIfInBounds_toArray, List.set_cons_zero, List.set_cons_succ]
                  dsimp only [List.drop]
                  obtain ⟨a1, af1⟩ := hY4.c2 (k := tt) (by have := HXl.out; omega)
                  have HY5 := hid13 (hY4.s2 tt m2)
                  have HR9 : Hid (WyR n (k + 1) F ((k : Int) + 1) ((b.es.take (j + 1)).foldl (upX hB hM) A) (X1.set tt m1) (X2.set tt m2)) := hid13 (by
                    rw [HT.out, List.foldl_append]
                    exact HU.out.1)
                  have HG9 := hid13 HU.out.2
                  clear hY4 HY3 HU mx1 mx2
                  go_wp2
                  go_roundg (gk - 1)
                  case measure => have := HK2.out; omega
                  case rel => exact ⟨j + 1, _, _, by have := HK2.out; omega, rfl, hid13 ⟨HY5.out, HR9.out, HG9.out.1, HG9.out.2⟩⟩
            · have hb3 : (eop == 3) = false := by simpa using hop
              have hlx : upX hB hM ((b.es.take j).foldl (upX hB hM) A) (lkX (D.map DB.a) (prX (be + (j : Int)) (eop, enn))) = (b.es.take j).foldl (upX hB hM) A := by
                unfold upX lkX prX
                dsimp only
                rw [hb3]
                simp
              have HR9 : Hid (WyR n (k + 1) F ((k : Int) + 1) ((b.es.take (j + 1)).foldl (upX hB hM) A) X1 X2) := hid13 (by
                rw [htk, List.foldl_append]
                show WyR _ _ _ _ (upX hB hM ((b.es.take j).foldl (upX hB hM) A) _) _ _
                rw [hlx]
                exact HJ2.out.2.1)
              have hne : (eop != 3) = true := by simpa using hop
              clear hjl he hed heb hEo he2 he3 r0 r1 htk hin hlx hk2 hop
              go_wp2
              go_roundg (gk - 1)
              case measure => have := HK2.out; omega
              case rel => exact ⟨j + 1, _, _, by have := HK2.out; omega, rfl, hid13 ⟨HJ2.out.1, HR9.out, HJ2.out.2.2⟩⟩
          · have HFin : Hid (WyM w Z1 Z2 X1 X2 wr ∧ WyR n (k + 1) F (((k + 1 : Nat)) : Int) (b.es.foldl (upX hB hM) A) X1 X2) := hid13 ⟨HJ2.out.1, by
              have h9 := HJ2.out.2.1
              rw [List.take_of_length_le (by rw [HD.out.2.2.2.1, List.length_map, prE_len, ← HD.out.2.1, List.length_map]; have := HD.out.2.2.1; omega)] at h9
              exact h9⟩
            clear HJ2 hk2
            go_wp2
            go_roundg (GK - 1)
            case measure => have := HJ.out; omega
            case rel => exact ⟨k + 1, D2, _, _, X1, X2, by have := HJ.out; omega, rfl, rfl, hid13 ⟨HFin.out.1, HFin.out.2, rfl, HE.out, HD2.out.1, HD2.out.2⟩⟩
    · have hkn : k = n := by omega
      have HFin : Hid (msR F P = (dp, 0, 0) ∧ Below w.heap.size w wr) := hid13 ⟨by
        have h1 := HI.out.2.2.2.1
        have h2 := HI.out.2.2.1
        rw [List.drop_of_length_le (by rw [HP.out]; unfold lkD; rw [List.length_map, List.length_map]; have := HN.out; omega)] at h2
        rw [← h2] at h1
        exact h1.symm, HI.out.1.b⟩
      clear HI hk
      go_wp2
      exact bodyPost_ret (v := .tuple #[.slice (some ⟨g, 0, none⟩) n c, .int .i64 dp, .int .i64 0, .int .i64 0]) (by simp [results, Try.results40, go_sem]) rfl ⟨_, by rw [← HP.out, HFin.out.1], HFin.out.2, fun _ => rfl, fun q => by rw [← HP.out, HFin.out.1] at q; exact absurd rfl q⟩
end Go.Proofs.Ytdpmhpmnkollaaa
