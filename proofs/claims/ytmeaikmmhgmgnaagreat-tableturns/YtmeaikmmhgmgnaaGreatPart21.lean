/-
  Part 21 of the proof: 2 texts, one behind the other.
-/
import Derived.Test.YtmeaikmmhgmgnaaGreatPart11
import Derived.Test.YtmeaikmmhgmgnaaGreatPart20
import Derived.Test.YtmeaikmmhgmgnaaGreatPart10
import Derived.Test.YtmeaikmmhgmgnaaGreatPart8
namespace Go.Proofs.YtmeaikmmhgmgnaaGreat
open Go.RowKit
set_option linter.unusedSimpArgs false
set_option linter.unusedVariables false

def setV : List Rte → Rte → List Rte
  | [], r => [r]
  | y :: t, r => if cmR r y < 0 then y :: setV t r else tellR (y :: t) r
def setF (S : List Rte) (r : Rte) : List Rte := (setV S.reverse r).reverse
theorem setV_app (r : Rte) (A : List Rte) : ∀ (B : List Rte), (∀ q ∈ B, cmR r q < 0) → setV (B ++ A) r = B ++ setV A r
  | [], _ => rfl
  | y :: B, h => by
    rw [List.cons_append]
    show (if cmR r y < 0 then y :: setV (B ++ A) r else tellR (y :: (B ++ A)) r) = _
    rw [if_pos (h y List.mem_cons_self), setV_app r A B (fun q hq => h q (List.mem_cons_of_mem _ hq))]
    rfl
theorem setF_app (r : Rte) (A B : List Rte) (h : ∀ q ∈ B, cmR r q < 0) : setF (A ++ B) r = setF A r ++ B := by
  unfold setF
  rw [List.reverse_append, setV_app r _ _ (fun q hq => h q (List.mem_reverse.mp hq)), List.reverse_append, List.reverse_reverse]
theorem setF_zero {S : List Rte} {r : Rte} (h : ∀ q ∈ S.drop 0, cmR r q < 0) : S.take 0 ++ r :: S.drop 0 = setF S r := by
  have := setF_app r [] S (by simpa using h)
  rw [List.nil_append] at this
  rw [this]; rfl
theorem setF_last (r y : Rte) (A : List Rte) (h : ¬ cmR r y < 0) : setF (A ++ [y]) r = (tellR (y :: A.reverse) r).reverse := by
  unfold setF
  rw [List.reverse_append, List.reverse_singleton, List.singleton_append]
  show (if cmR r y < 0 then _ else tellR (y :: A.reverse) r).reverse = _
  rw [if_neg h]
theorem setF_new {S : List Rte} {r : Rte} {a : Nat} (ha : a < S.length) (h : ∀ q ∈ S.drop (a + 1), cmR r q < 0) (h1 : ¬ cmR r S[a] < 0) (h2 : ((S[a].1.1 == r.1.1) && (S[a].1.2 == r.1.2)) = false) : S.take (a + 1) ++ r :: S.drop (a + 1) = setF S r := by
  have e := setF_app r (S.take (a + 1)) (S.drop (a + 1)) h
  rw [List.take_append_drop] at e
  rw [e]
  have e2 : S.take (a + 1) = S.take a ++ [S[a]] := List.take_succ_eq_append_getElem ha
  rw [e2, setF_last r _ _ h1]
  simp [tellR, h2]
theorem setF_old {S : List Rte} {r : Rte} {a : Nat} (ha : a < S.length) (h : ∀ q ∈ S.drop (a + 1), cmR r q < 0) (h1 : ¬ cmR r S[a] < 0) (h2 : ((S[a].1.1 == r.1.1) && (S[a].1.2 == r.1.2)) = true) : S.set a r = setF S r := by
  have e := setF_app r (S.take (a + 1)) (S.drop (a + 1)) h
  rw [List.take_append_drop] at e
  rw [e]
  have e2 : S.take (a + 1) = S.take a ++ [S[a]] := List.take_succ_eq_append_getElem ha
  rw [e2, setF_last r _ _ h1]
  simp only [tellR, h2, if_true, List.reverse_cons, List.reverse_reverse]
  rw [List.set_eq_take_append_cons_drop, if_pos ha]
  simp
theorem cm_neg (x y : Rte) : cmR y x = - cmR x y := pcmp_neg _ _ _ _
def tlV (R : List Rte) : List Rte := R.foldr (fun r st => tellR st r) []
theorem tell_ne (y z : Rte) (t : List Rte) (h : ((z.1.1 == y.1.1) && (z.1.2 == y.1.2)) = false) : tellR (z :: t) y = y :: z :: t := by
  unfold tellR; simp [h]
theorem tell_eq (y z : Rte) (t : List Rte) (h : ((z.1.1 == y.1.1) && (z.1.2 == y.1.2)) = true) : tellR (z :: t) y = y :: t := by
  unfold tellR; simp [h]
theorem key_eq {y z : Rte} (h : ((z.1.1 == y.1.1) && (z.1.2 == y.1.2)) = true) : z.1 = y.1 := by
  obtain ⟨h1, h2⟩ := Bool.and_eq_true_iff.mp h
  exact Prod.ext (eq_of_beq h1) (eq_of_beq h2)
theorem cm_key {x y z : Rte} (h : z.1 = y.1) : cmR x z = cmR x y := by unfold cmR; rw [h]
theorem cm_ne {x y : Rte} (h : cmR x y < 0) : ((x.1.1 == y.1.1) && (x.1.2 == y.1.2)) = false := by
  by_cases c : ((x.1.1 == y.1.1) && (x.1.2 == y.1.2)) = true
  · have := key_eq c
    unfold cmR at h
    rw [this, (pcmp_eq0 _ _ _ _).2 ⟨rfl, rfl⟩] at h
    omega
  · simpa using c
theorem tl_ins (x : Rte) : ∀ R : List Rte, tlV (revIns R x) = setV (tlV R) x
  | [] => rfl
  | y :: R => by
    have ih := tl_ins x R
    by_cases c : cmR x y < 0
    · have e1 : revIns (y :: R) x = y :: revIns R x := if_pos c
      rw [e1]
      show tellR (tlV (revIns R x)) y = setV (tellR (tlV R) y) x
      rw [ih]
      match tlV R with
      | [] =>
        show tellR [x] y = setV [y] x
        rw [tell_ne y x [] (cm_ne c)]
        show _ = if cmR x y < 0 then y :: [x] else _
        rw [if_pos c]
      | z :: t =>
        by_cases k : ((z.1.1 == y.1.1) && (z.1.2 == y.1.2)) = true
        · have cz : cmR x z < 0 := by rw [cm_key (key_eq k)]; exact c
          rw [tell_eq y z t k]
          show tellR (if cmR x z < 0 then z :: setV t x else tellR (z :: t) x) y = (if cmR x y < 0 then y :: setV t x else _)
          rw [if_pos cz, if_pos c, tell_eq y z _ k]
        · have k' : ((z.1.1 == y.1.1) && (z.1.2 == y.1.2)) = false := by simpa using k
          rw [tell_ne y z t k']
          show _ = if cmR x y < 0 then y :: setV (z :: t) x else _
          rw [if_pos c]
          show tellR (if cmR x z < 0 then z :: setV t x else tellR (z :: t) x) y = y :: (if cmR x z < 0 then z :: setV t x else tellR (z :: t) x)
          by_cases cz : cmR x z < 0
          · rw [if_pos cz, tell_ne y z _ k']
          · rw [if_neg cz]
            by_cases kz : ((z.1.1 == x.1.1) && (z.1.2 == x.1.2)) = true
            · rw [tell_eq x z t kz, tell_ne y x _ (cm_ne c)]
            · rw [tell_ne x z t (by simpa using kz), tell_ne y x _ (cm_ne c)]
    · have e1 : revIns (y :: R) x = x :: y :: R := if_neg c
      rw [e1]
      show tellR (tellR (tlV R) y) x = setV (tellR (tlV R) y) x
      obtain ⟨u, hu⟩ : ∃ u, tellR (tlV R) y = y :: u := by
        match tlV R with
        | [] => exact ⟨[], rfl⟩
        | z :: t =>
          by_cases k : ((z.1.1 == y.1.1) && (z.1.2 == y.1.2)) = true
          · exact ⟨t, tell_eq y z t k⟩
          · exact ⟨z :: t, tell_ne y z t (by simpa using k)⟩
      rw [hu]
      show _ = if cmR x y < 0 then _ else tellR (y :: u) x
      rw [if_neg c]
theorem tl_fold : ∀ (D R : List Rte), tlV (D.foldl revIns R) = D.foldl setV (tlV R)
  | [], _ => rfl
  | x :: D, R => by rw [List.foldl_cons, tl_fold D, tl_ins]; rfl
theorem setF_fold : ∀ (D S : List Rte), D.foldl setF S = (D.foldl setV S.reverse).reverse
  | [], S => by simp
  | x :: D, S => by rw [List.foldl_cons, setF_fold D]; unfold setF; rw [List.reverse_reverse]; rfl
theorem canon_eq (D : List Rte) : ltL (isrt D) = D.foldl setF [] := by
  unfold ltL isrt
  rw [setF_fold, List.foldl_reverse]
  have := tl_fold D []
  unfold tlV at this
  rw [this]
  rfl
theorem setV_len (r : Rte) : ∀ S : List Rte, (setV S r).length ≤ S.length + 1
  | [] => by simp [setV]
  | y :: t => by
    show (if cmR r y < 0 then y :: setV t r else tellR (y :: t) r).length ≤ _
    split
    · have := setV_len r t; simp; omega
    · exact tellR_len _ _
theorem setF_len (r : Rte) (S : List Rte) : (setF S r).length ≤ S.length + 1 := by
  unfold setF; have := setV_len r S.reverse; simpa using this
end Go.Proofs.YtmeaikmmhgmgnaaGreat
namespace Go.Proofs.YtmeaikmmhgmgnaaGreat
open Go.RowKit
set_option linter.unusedSimpArgs false
set_option linter.unusedVariables false
attribute [local go_sem] Oper.semAt_some

section
variable (R : Nat) (F : Int) (s : ByteArray)
set_option maxRecDepth 20000 in
set_option maxHeartbeats 4000000 in
theorem word5_any (ln st : Int) (k0 : Nat) (w : World) (h : RdV w R F s (k0 : Int) ln st) (hk0 : k0 ≤ s.size) (hs : s.size ≤ 1000000000) :
    Calls Tryz.prog 70 #[.pointer (some ⟨R, 0, none⟩)] w fun e w' => e = .returned (.string (s.extract k0 (wdS s k0))) ∧ Below w.heap.size w w' := by
  have HK := hidR (fun k hk => kind5_any R F s (k0 : Int) ln st k w h hk hs)
  obtain ⟨-, -, r2, -, -⟩ := h.cells
  have HC1 : Hid (∀ X, Below w.heap.size w X → X.cell? ⟨R, 0, none⟩ = some (.int .i64 F) ∧ X.cell? ⟨R, 1, none⟩ = some (.string s) ∧ X.cell? ⟨R, 2, none⟩ = some (.int .i64 (k0 : Int)) ∧ X.cell? ⟨R, 3, none⟩ = some (.int .i64 ln) ∧ X.cell? ⟨R, 4, none⟩ = some (.int .i64 st)) := hidR (fun X hb => (h.below hb).cells)
  clear h
  go_enter Tryz.func70, Tryz.ntmps70
  go_wp2_with fail
  refine scope_mid 0 (fun a' W => ∃ (k : Nat) (x4 x5 x6 x7 x8 x9 x10 x11 x12 x13 x14 x15 x16 x17 x18 x19 x20 x21 x22 x23 : Value), a' = { tmps := #[.pointer (some ⟨R, 0, none⟩), undef, .string ⟨#[]⟩, .int .i64 (k : Int), x4, x5, x6, x7, x8, x9, x10, x11, x12, x13, x14, x15, x16, x17, x18, x19, x20, x21, x22, x23], defers := [] } ∧ W = w ∧ Hid (k0 ≤ k ∧ k ≤ s.size ∧ wdS s k = wdS s k0)) (fun a' _ => s.size - (intOf (a'.tmps.getD 3 undef)).toNat) (by rfl) ?first ?pass
  case first =>
    go_wp2
    exact ⟨k0, _, _, _, _, _, _, _, _, _, _, _, _, _, _, _, _, _, _, _, _, rfl, by first | trivial | rfl, hidR ⟨Nat.le_refl _, hk0, rfl⟩⟩
  case pass =>
    clear r2
    rintro a' W ⟨k, x4, x5, x6, x7, x8, x9, x10, x11, x12, x13, x14, x15, x16, x17, x18, x19, x20, x21, x22, x23, rfl, rfl, HI⟩
    obtain ⟨hk1, hk2, hk3⟩ := HI.out
    have KK := HK.out k hk2
    have HG : Hid (kdS s k = 0 → k + 1 ≤ s.size ∧ wdS s (k + 1) = wdS s k0) := hidR (fun q => ⟨by have := kdS_in (s := s) (k := k) (by omega) hk2; omega, by rw [← wdS_go hk2 q]; exact hk3⟩)
    have HH : Hid (¬ kdS s k = 0 → wdS s k0 = k) := hidR (fun q => by rw [← hk3, wdS_here q])
    have wk : IntKind.i64.wrap ((k : Int) + 1) = ((k + 1 : Nat) : Int) := by rw [IntKind.wrap_i64]; push_cast; omega
    have j1 : (k0 : Int) ≤ (k : Int) := by omega
    have j2 : (k : Int) ≤ (s.size : Int) := by omega
    have j3 : (0 : Int) ≤ (k0 : Int) := by omega
    clear hk3
    by_cases hv : kdS s k = 0
    · have hg := HG.out hv
      rw [hv] at KK
      clear HG HH hv
      go_wp2_with fail
      refine KK.mono ?_
      rintro e W' ⟨rfl, rfl⟩
      clear KK HK
      go_wp2
      first | refine wp_goto ?_ | skip
      refine And.intro rfl (And.intro ⟨k + 1, _, _, _, _, _, _, _, _, _, _, _, _, _, _, _, _, _, _, _, _, by first | rfl | (simp only [wk]), rfl, hidR ⟨by omega, hg.1, hg.2⟩⟩ ?_)
      simp [intOf]
      omega
    · have hh := HH.out hv
      have hd : (kdS s k == 0) = false := by simpa using hv
      revert KK hd
      clear HG HH hv
      generalize kdS s k = v
      intro KK hd
      have Hhh := hidR hh
      clear hh
      go_wp2_with fail
      refine KK.mono ?_
      rintro e W' ⟨rfl, rfl⟩
      clear KK HK
      go_wp2_with fail
      refine qw_region (C := fun X => Below W'.heap.size W' X) (by kernel_rfl) (by kernel_rfl) (below_drewN (Below.refl _ _) 1) ?_
      refine qw_run (v := .pointer (some ⟨R, 0, none⟩)) (by rfl) ?_ ?_
      · (intro w1 hC; clear hC; go_simp; first | done | (simp; done) | (simp [*]; done) | omega | (simp; omega) | rfl)
      simp only [Act.put, List.setIfInBounds_toArray, List.set_cons_zero, List.set_cons_succ]
      refine qw_run (v := .pointer (some ⟨R, 0, none⟩)) (by rfl) ?_ ?_
      · (intro w1 hC; clear hC; go_simp; first | done | (simp; done) | (simp [*]; done) | omega | (simp; omega) | rfl)
      simp only [Act.put, List.setIfInBounds_toArray, List.set_cons_zero, List.set_cons_succ]
      refine qw_run (v := .pointer (some ⟨R, 1, none⟩)) (by rfl) ?_ ?_
      · (intro w1 hC; clear hC; go_simp; first | done | (simp; done) | (simp [*]; done) | omega | (simp; omega) | rfl)
      simp only [Act.put, List.setIfInBounds_toArray, List.set_cons_zero, List.set_cons_succ]
      refine qw_run (v := .string s) (by rfl) ?_ ?_
      · (intro w1 hC; have f0 := (HC1.out _ hC).2.1; clear hC; go_simp; first | done | (simp; done) | (simp [*]; done) | omega | (simp; omega) | rfl)
      simp only [Act.put, List.setIfInBounds_toArray, List.set_cons_zero, List.set_cons_succ]
      refine qw_run (v := .pointer (some ⟨R, 0, none⟩)) (by rfl) ?_ ?_
      · (intro w1 hC; clear hC; go_simp; first | done | (simp; done) | (simp [*]; done) | omega | (simp; omega) | rfl)
      simp only [Act.put, List.setIfInBounds_toArray, List.set_cons_zero, List.set_cons_succ]
      refine qw_run (v := .pointer (some ⟨R, 0, none⟩)) (by rfl) ?_ ?_
      · (intro w1 hC; clear hC; go_simp; first | done | (simp; done) | (simp [*]; done) | omega | (simp; omega) | rfl)
      simp only [Act.put, List.setIfInBounds_toArray, List.set_cons_zero, List.set_cons_succ]
      refine qw_run (v := .pointer (some ⟨R, 2, none⟩)) (by rfl) ?_ ?_
      · (intro w1 hC; clear hC; go_simp; first | done | (simp; done) | (simp [*]; done) | omega | (simp; omega) | rfl)
      simp only [Act.put, List.setIfInBounds_toArray, List.set_cons_zero, List.set_cons_succ]
      refine qw_run (v := .int .i64 (k0 : Int)) (by rfl) ?_ ?_
      · (intro w1 hC; have f0 := (HC1.out _ hC).2.2.1; clear hC; go_simp; first | done | (simp; done) | (simp [*]; done) | omega | (simp; omega) | rfl)
      simp only [Act.put, List.setIfInBounds_toArray, List.set_cons_zero, List.set_cons_succ]
      refine qw_run (v := .int .i64 (k : Int)) (by rfl) ?_ ?_
      · (intro w1 hC; clear hC; go_simp; first | done | (simp; done) | (simp [*]; done) | omega | (simp; omega) | rfl)
      simp only [Act.put, List.setIfInBounds_toArray, List.set_cons_zero, List.set_cons_succ]
      refine qw_run (v := .string (s.extract k0 k)) (by rfl) ?_ ?_
      · (intro w1 hC; clear hC; go_simp; first | done | (simp; done) | (simp [*]; done) | omega | (simp; omega) | rfl)
      simp only [Act.put, List.setIfInBounds_toArray, List.set_cons_zero, List.set_cons_succ]
      refine qw_run (v := .string (s.extract k0 k)) (by rfl) ?_ ?_
      · (intro w1 hC; clear hC; go_simp; first | done | (simp; done) | (simp [*]; done) | omega | (simp; omega) | rfl)
      simp only [Act.put, List.setIfInBounds_toArray, List.set_cons_zero, List.set_cons_succ]
      refine qw_nil ?_
      intro w3 hC
      have HB := hidR hC
      clear hC HC1
      go_wp2
      refine jump_ret ?_
      exact bodyPost_ret (v := .string (s.extract k0 k)) (by simp [results, Tryz.results70, go_sem]) rfl ⟨by rw [Hhh.out], HB.out⟩
theorem ixB10_any (t : ByteArray) (w : World) :
    Calls Tryz.prog 74 #[.string t, .int .u8 10] w fun e w' => e = .returned (.int .i64 (Lib.indexByte t.data.toList 10)) ∧ Below w.heap.size w w' := by
  have KI : Calls Tryz.prog 91 #[.string t, .int .u8 10] w fun e w' => e = .returned (.int .i64 (Lib.indexByte t.data.toList 10)) ∧ w' = w := Any.stringslite_IndexByte Tryz.lays217 t 10 w
  go_enter Tryz.func74, Tryz.ntmps74
  go_wp2_with fail
  refine KI.mono ?_
  rintro e w1 ⟨rfl, rfl⟩
  clear KI
  go_wp2
  go_ret
  exact ⟨rfl, Below.refl _ _⟩
set_option maxRecDepth 20000 in
set_option maxHeartbeats 4000000 in
theorem toNext_no (ln st : Int) (k : Nat) (w : World) (h : RdV w R F s (k : Int) ln st) (hk : k ≤ s.size) (hs : s.size ≤ 1000000000) (hn : nlS s k = -1) :
    Calls Tryz.prog 47 #[.pointer (some ⟨R, 0, none⟩)] w fun e w' => e = .returned (.bool false) ∧ Below w.heap.size w w' := by
  have HC1 : Hid (∀ X, Below w.heap.size w X → X.cell? ⟨R, 0, none⟩ = some (.int .i64 F) ∧ X.cell? ⟨R, 1, none⟩ = some (.string s) ∧ X.cell? ⟨R, 2, none⟩ = some (.int .i64 (k : Int)) ∧ X.cell? ⟨R, 3, none⟩ = some (.int .i64 ln) ∧ X.cell? ⟨R, 4, none⟩ = some (.int .i64 st)) := hidR (fun X hb => (h.below hb).cells)
  have KI := fun w => ixB10_any (s.extract k s.size) w
  rw [show Lib.indexByte (s.extract k s.size).data.toList 10 = nlS s k from rfl, hn] at KI
  obtain ⟨z, hz⟩ : ∃ z : Int, z = -1 := ⟨_, rfl⟩
  rw [← hz] at KI
  have hz0 : z < 0 := by omega
  have j2 : (k : Int) ≤ (s.size : Int) := by omega
  have j3 : (0 : Int) ≤ (k : Int) := by omega
  clear h hn hz
  go_enter Tryz.func47, Tryz.ntmps47
  go_wp2_with fail
  refine qw_region (C := fun X => Below w.heap.size w X) (by kernel_rfl) (by kernel_rfl) (below_drewN (Below.refl _ _) 1) ?_
  refine qw_run (v := .pointer (some ⟨R, 0, none⟩)) (by rfl) ?_ ?_
  · (intro w1 hC; clear hC; go_simp; first | done | (simp; done) | (simp [*]; done) | omega | (simp; omega) | rfl)
  simp only [Act.put, List.setIfInBounds_toArray, List.set_cons_zero, List.set_cons_succ]
  refine qw_run (v := .pointer (some ⟨R, 0, none⟩)) (by rfl) ?_ ?_
  · (intro w1 hC; clear hC; go_simp; first | done | (simp; done) | (simp [*]; done) | omega | (simp; omega) | rfl)
  simp only [Act.put, List.setIfInBounds_toArray, List.set_cons_zero, List.set_cons_succ]
  refine qw_run (v := .pointer (some ⟨R, 1, none⟩)) (by rfl) ?_ ?_
  · (intro w1 hC; clear hC; go_simp; first | done | (simp; done) | (simp [*]; done) | omega | (simp; omega) | rfl)
  simp only [Act.put, List.setIfInBounds_toArray, List.set_cons_zero, List.set_cons_succ]
  refine qw_run (v := .string s) (by rfl) ?_ ?_
  · (intro w1 hC; have f0 := (HC1.out _ hC).2.1; clear hC; go_simp; first | done | (simp; done) | (simp [*]; done) | omega | (simp; omega) | rfl)
  simp only [Act.put, List.setIfInBounds_toArray, List.set_cons_zero, List.set_cons_succ]
  refine qw_run (v := .pointer (some ⟨R, 0, none⟩)) (by rfl) ?_ ?_
  · (intro w1 hC; clear hC; go_simp; first | done | (simp; done) | (simp [*]; done) | omega | (simp; omega) | rfl)
  simp only [Act.put, List.setIfInBounds_toArray, List.set_cons_zero, List.set_cons_succ]
  refine qw_run (v := .pointer (some ⟨R, 0, none⟩)) (by rfl) ?_ ?_
  · (intro w1 hC; clear hC; go_simp; first | done | (simp; done) | (simp [*]; done) | omega | (simp; omega) | rfl)
  simp only [Act.put, List.setIfInBounds_toArray, List.set_cons_zero, List.set_cons_succ]
  refine qw_run (v := .pointer (some ⟨R, 2, none⟩)) (by rfl) ?_ ?_
  · (intro w1 hC; clear hC; go_simp; first | done | (simp; done) | (simp [*]; done) | omega | (simp; omega) | rfl)
  simp only [Act.put, List.setIfInBounds_toArray, List.set_cons_zero, List.set_cons_succ]
  refine qw_run (v := .int .i64 (k : Int)) (by rfl) ?_ ?_
  · (intro w1 hC; have f0 := (HC1.out _ hC).2.2.1; clear hC; go_simp; first | done | (simp; done) | (simp [*]; done) | omega | (simp; omega) | rfl)
  simp only [Act.put, List.setIfInBounds_toArray, List.set_cons_zero, List.set_cons_succ]
  refine qw_run (v := .string (s.extract k s.size)) (by rfl) ?_ ?_
  · (intro w1 hC; clear hC; go_simp; first | done | (simp; done) | (simp [*]; done) | omega | (simp; omega) | rfl)
  simp only [Act.put, List.setIfInBounds_toArray, List.set_cons_zero, List.set_cons_succ]
  refine qw_call (v := .int .i64 z) (f := 74) (args := #[.string (s.extract k s.size), .int .u8 10]) (by rfl) ?_ ?_ ?_
  · (intro w1 hC; clear hC; go_simp)
  · exact fun w1 hC => (KI w1).mono fun e w' ⟨he, hb⟩ => ⟨he, keepb hb hC⟩
  simp only [Act.put, List.setIfInBounds_toArray, List.set_cons_zero, List.set_cons_succ]
  refine qw_run (v := .int .i64 z) (by rfl) ?_ ?_
  · (intro w1 hC; clear hC; go_simp; first | done | (simp; done) | (simp [*]; done) | omega | (simp; omega) | rfl)
  simp only [Act.put, List.setIfInBounds_toArray, List.set_cons_zero, List.set_cons_succ]
  refine qw_nil ?_
  intro w3 hC
  have HB := hidR hC
  clear hC HC1 KI
  go_wp2
  exact bodyPost_ret (v := .bool false) (by simp [results, Tryz.results47, go_sem]) rfl ⟨rfl, HB.out⟩
set_option maxRecDepth 20000 in
set_option maxHeartbeats 4000000 in
theorem toNext_yes (ln st : Int) (k i : Nat) (w : World) (h : RdV w R F s (k : Int) ln st) (hk : k ≤ s.size) (hs : s.size ≤ 1000000000) (hn : nlS s k = (i : Int)) (hl0 : 0 ≤ ln) (hl1 : ln ≤ 2000000000) :
    Calls Tryz.prog 47 #[.pointer (some ⟨R, 0, none⟩)] w fun e w' => e = .returned (.bool true) ∧ RdV w' R F s ((k + i + 1 : Nat) : Int) (ln + 1) ((k + i + 1 : Nat) : Int) ∧ Bo R w w' := by
  have HC1 : Hid (∀ X, Below w.heap.size w X → X.cell? ⟨R, 0, none⟩ = some (.int .i64 F) ∧ X.cell? ⟨R, 1, none⟩ = some (.string s) ∧ X.cell? ⟨R, 2, none⟩ = some (.int .i64 (k : Int)) ∧ X.cell? ⟨R, 3, none⟩ = some (.int .i64 ln) ∧ X.cell? ⟨R, 4, none⟩ = some (.int .i64 st)) := hidR (fun X hb => (h.below hb).cells)
  have hbd := nlS_bd s k hk
  have KI := fun w => ixB10_any (s.extract k s.size) w
  rw [show Lib.indexByte (s.extract k s.size).data.toList 10 = nlS s k from rfl, hn] at KI
  obtain ⟨z, hz⟩ : ∃ z : Int, z = (i : Int) := ⟨_, rfl⟩
  rw [← hz] at KI
  have hz0 : ¬ z < 0 := by omega
  have hz1 : z + 1 ≤ 1000000001 := by omega
  have wz : IntKind.i64.wrap (z + 1) = z + 1 := by rw [IntKind.wrap_i64]; omega
  have wk : IntKind.i64.wrap ((k : Int) + (z + 1)) = ((k + i + 1 : Nat) : Int) := by rw [IntKind.wrap_i64]; push_cast; omega
  have wl : IntKind.i64.wrap (ln + 1) = ln + 1 := by rw [IntKind.wrap_i64]; omega
  have j2 : (k : Int) ≤ (s.size : Int) := by omega
  have j3 : (0 : Int) ≤ (k : Int) := by omega
  have HR := hidR h
  obtain ⟨n, hnn⟩ : ∃ n : Int, n = ((k + i + 1 : Nat) : Int) := ⟨_, rfl⟩
  rw [← hnn] at wk ⊢
  clear h hn hz hbd hnn
  go_enter Tryz.func47, Tryz.ntmps47
  go_wp2_with fail
  refine qw_region (C := fun X => Below w.heap.size w X) (by kernel_rfl) (by kernel_rfl) (below_drewN (Below.refl _ _) 1) ?_
  refine qw_run (v := .pointer (some ⟨R, 0, none⟩)) (by rfl) ?_ ?_
  · (intro w1 hC; clear hC; go_simp; first | done | (simp; done) | (simp [*]; done) | omega | (simp; omega) | rfl)
  simp only [Act.put, List.setIfInBounds_toArray, List.set_cons_zero, List.set_cons_succ]
  refine qw_run (v := .pointer (some ⟨R, 0, none⟩)) (by rfl) ?_ ?_
  · (intro w1 hC; clear hC; go_simp; first | done | (simp; done) | (simp [*]; done) | omega | (simp; omega) | rfl)
  simp only [Act.put, List.setIfInBounds_toArray, List.set_cons_zero, List.set_cons_succ]
  refine qw_run (v := .pointer (some ⟨R, 1, none⟩)) (by rfl) ?_ ?_
  · (intro w1 hC; clear hC; go_simp; first | done | (simp; done) | (simp [*]; done) | omega | (simp; omega) | rfl)
  simp only [Act.put, List.setIfInBounds_toArray, List.set_cons_zero, List.set_cons_succ]
  refine qw_run (v := .string s) (by rfl) ?_ ?_
  · (intro w1 hC; have f0 := (HC1.out _ hC).2.1; clear hC; go_simp; first | done | (simp; done) | (simp [*]; done) | omega | (simp; omega) | rfl)
  simp only [Act.put, List.setIfInBounds_toArray, List.set_cons_zero, List.set_cons_succ]
  refine qw_run (v := .pointer (some ⟨R, 0, none⟩)) (by rfl) ?_ ?_
  · (intro w1 hC; clear hC; go_simp; first | done | (simp; done) | (simp [*]; done) | omega | (simp; omega) | rfl)
  simp only [Act.put, List.setIfInBounds_toArray, List.set_cons_zero, List.set_cons_succ]
  refine qw_run (v := .pointer (some ⟨R, 0, none⟩)) (by rfl) ?_ ?_
  · (intro w1 hC; clear hC; go_simp; first | done | (simp; done) | (simp [*]; done) | omega | (simp; omega) | rfl)
  simp only [Act.put, List.setIfInBounds_toArray, List.set_cons_zero, List.set_cons_succ]
  refine qw_run (v := .pointer (some ⟨R, 2, none⟩)) (by rfl) ?_ ?_
  · (intro w1 hC; clear hC; go_simp; first | done | (simp; done) | (simp [*]; done) | omega | (simp; omega) | rfl)
  simp only [Act.put, List.setIfInBounds_toArray, List.set_cons_zero, List.set_cons_succ]
  refine qw_run (v := .int .i64 (k : Int)) (by rfl) ?_ ?_
  · (intro w1 hC; have f0 := (HC1.out _ hC).2.2.1; clear hC; go_simp; first | done | (simp; done) | (simp [*]; done) | omega | (simp; omega) | rfl)
  simp only [Act.put, List.setIfInBounds_toArray, List.set_cons_zero, List.set_cons_succ]
  refine qw_run (v := .string (s.extract k s.size)) (by rfl) ?_ ?_
  · (intro w1 hC; clear hC; go_simp; first | done | (simp; done) | (simp [*]; done) | omega | (simp; omega) | rfl)
  simp only [Act.put, List.setIfInBounds_toArray, List.set_cons_zero, List.set_cons_succ]
  refine qw_call (v := .int .i64 z) (f := 74) (args := #[.string (s.extract k s.size), .int .u8 10]) (by rfl) ?_ ?_ ?_
  · (intro w1 hC; clear hC; go_simp)
  · exact fun w1 hC => (KI w1).mono fun e w' ⟨he, hb⟩ => ⟨he, keepb hb hC⟩
  simp only [Act.put, List.setIfInBounds_toArray, List.set_cons_zero, List.set_cons_succ]
  refine qw_run (v := .int .i64 z) (by rfl) ?_ ?_
  · (intro w1 hC; clear hC; go_simp; first | done | (simp; done) | (simp [*]; done) | omega | (simp; omega) | rfl)
  simp only [Act.put, List.setIfInBounds_toArray, List.set_cons_zero, List.set_cons_succ]
  refine qw_nil ?_
  intro w3 hC
  have hR := HR.out.below hC
  have HF := hidR (⟨((hR.setA n).setL (ln + 1)).setS n, Bo.set (Bo.set (Bo.set (Bt.ofB hC) 2 (.int .i64 n)) 3 (.int .i64 (ln + 1))) 4 (.int .i64 n)⟩ : RdV (((w3.setCell ⟨R, 2, none⟩ (.int .i64 n)).setCell ⟨R, 3, none⟩ (.int .i64 (ln + 1))).setCell ⟨R, 4, none⟩ (.int .i64 n)) R F s n (ln + 1) n ∧ Bo R w (((w3.setCell ⟨R, 2, none⟩ (.int .i64 n)).setCell ⟨R, 3, none⟩ (.int .i64 (ln + 1))).setCell ⟨R, 4, none⟩ (.int .i64 n)))
  obtain ⟨c0, c1, c2, c3, c4⟩ := hR.cells
  have g2 := hR.free 2
  have g3 := hR.free 3
  have g4 := hR.free 4
  clear hC HC1 KI hR HR
  go_wp2
  exact bodyPost_ret (v := .bool true) (by simp [results, Tryz.results47, go_sem]) rfl ⟨rfl, HF.out⟩
set_option maxRecDepth 20000 in
set_option maxHeartbeats 4000000 in
theorem fault5_any (e a ln st : Int) (w : World) (h : RdV w R F s a ln st) (h1 : 0 ≤ st) (h2 : st ≤ 2000000000) (h3 : 0 ≤ a) (h4 : a ≤ 2000000000) :
    Calls Tryz.prog 72 #[.pointer (some ⟨R, 0, none⟩), .int .i64 e] w fun r w' => r = .returned (.agg #[.int .i64 e, .int .i64 ln, .int .i64 (a - st + 1)]) ∧ Below w.heap.size w w' := by
  have q0 := bl1 w (.cells #[.int .i64 0, .int .i64 0, .int .i64 0] 28)
  have HB0 := hidR q0
  have HR := hidR (h.below q0)
  have HZ : Hid ((w.alloc (.cells #[.int .i64 0, .int .i64 0, .int .i64 0] 28)).heap[w.heap.size]? = some (.cells #[.int .i64 0, .int .i64 0, .int .i64 0] 28)) := hidR Array.getElem?_push_size
  have w1 : IntKind.i64.wrap (a - st) = a - st := by rw [IntKind.wrap_i64]; omega
  have w2 : IntKind.i64.wrap (a - st + 1) = a - st + 1 := by rw [IntKind.wrap_i64]; omega
  clear q0 h h1 h2 h3 h4
  go_enter Tryz.func72, Tryz.ntmps72
  go_wp2_with fail
  revert HB0 HR HZ
  generalize w.alloc (.cells #[.int .i64 0, .int .i64 0, .int .i64 0] 28) = W0
  intro HB0 HR HZ
  have HC0 : Hid (Below W0.heap.size W0 W0.drew ∧ W0.drew.heap[w.heap.size]? = some (.cells #[.int .i64 0, .int .i64 0, .int .i64 0] 28)) := hidR ⟨below_drewN (Below.refl _ _) 1, HZ.out⟩
  have HC1 : Hid (∀ X, Below W0.heap.size W0 X → X.cell? ⟨R, 0, none⟩ = some (.int .i64 F) ∧ X.cell? ⟨R, 1, none⟩ = some (.string s) ∧ X.cell? ⟨R, 2, none⟩ = some (.int .i64 a) ∧ X.cell? ⟨R, 3, none⟩ = some (.int .i64 ln) ∧ X.cell? ⟨R, 4, none⟩ = some (.int .i64 st)) := hidR (fun X hb => (HR.out.below hb).cells)
  clear HR HZ
  refine qp_region2 16 (qpOk 16 16 (by decide) (fun N => by kernel_rfl) (by kernel_rfl) (by kernel_rfl) (by kernel_rfl) (by kernel_rfl)) (C := fun X => Below W0.heap.size W0 X ∧ X.heap[w.heap.size]? = some (.cells #[.int .i64 0, .int .i64 0, .int .i64 0] 28)) [some 5, some 6, some 7, some 8, some 9, some 10, some 11, some 12, some 13, some 14, some 15, some 16, some 17, some 18, some 19, some 20] [.int .i64 e, .pointer (some ⟨R, 0, none⟩), .pointer (some ⟨R, 0, none⟩), .pointer (some ⟨R, 3, none⟩), .int .i64 ln, .pointer (some ⟨R, 0, none⟩), .pointer (some ⟨R, 0, none⟩), .pointer (some ⟨R, 2, none⟩), .int .i64 a, .pointer (some ⟨R, 0, none⟩), .pointer (some ⟨R, 0, none⟩), .pointer (some ⟨R, 4, none⟩), .int .i64 st, .int .i64 (a - st), .int .i64 (a - st + 1), .agg #[.int .i64 e, .int .i64 ln, .int .i64 (a - st + 1)]] (by kernel_rfl) HC0.out ?walk ?fin
  case walk =>
    dsimp only [List.take]
    refine q_run (v := .int .i64 e) (by rfl) ?_ ?_
    · (intro w1 hC; clear hC; go_simp; first | done | (simp; done) | (simp [*]; done) | omega | (simp; omega) | rfl)
    simp only [Act.put, List.setIfInBounds_toArray, List.set_cons_zero, List.set_cons_succ]
    refine q_run (v := .pointer (some ⟨R, 0, none⟩)) (by rfl) ?_ ?_
    · (intro w1 hC; clear hC; go_simp; first | done | (simp; done) | (simp [*]; done) | omega | (simp; omega) | rfl)
    simp only [Act.put, List.setIfInBounds_toArray, List.set_cons_zero, List.set_cons_succ]
    refine q_run (v := .pointer (some ⟨R, 0, none⟩)) (by rfl) ?_ ?_
    · (intro w1 hC; clear hC; go_simp; first | done | (simp; done) | (simp [*]; done) | omega | (simp; omega) | rfl)
    simp only [Act.put, List.setIfInBounds_toArray, List.set_cons_zero, List.set_cons_succ]
    refine q_run (v := .pointer (some ⟨R, 3, none⟩)) (by rfl) ?_ ?_
    · (intro w1 hC; clear hC; go_simp; first | done | (simp; done) | (simp [*]; done) | omega | (simp; omega) | rfl)
    simp only [Act.put, List.setIfInBounds_toArray, List.set_cons_zero, List.set_cons_succ]
    refine q_run (v := .int .i64 ln) (by rfl) ?_ ?_
    · (intro w1 hC; have f0 := (HC1.out _ hC.1).2.2.2.1; clear hC; go_simp; first | done | (simp; done) | (simp [*]; done) | omega | (simp; omega) | rfl)
    simp only [Act.put, List.setIfInBounds_toArray, List.set_cons_zero, List.set_cons_succ]
    refine q_run (v := .pointer (some ⟨R, 0, none⟩)) (by rfl) ?_ ?_
    · (intro w1 hC; clear hC; go_simp; first | done | (simp; done) | (simp [*]; done) | omega | (simp; omega) | rfl)
    simp only [Act.put, List.setIfInBounds_toArray, List.set_cons_zero, List.set_cons_succ]
    refine q_run (v := .pointer (some ⟨R, 0, none⟩)) (by rfl) ?_ ?_
    · (intro w1 hC; clear hC; go_simp; first | done | (simp; done) | (simp [*]; done) | omega | (simp; omega) | rfl)
    simp only [Act.put, List.setIfInBounds_toArray, List.set_cons_zero, List.set_cons_succ]
    refine q_run (v := .pointer (some ⟨R, 2, none⟩)) (by rfl) ?_ ?_
    · (intro w1 hC; clear hC; go_simp; first | done | (simp; done) | (simp [*]; done) | omega | (simp; omega) | rfl)
    simp only [Act.put, List.setIfInBounds_toArray, List.set_cons_zero, List.set_cons_succ]
    refine q_run (v := .int .i64 a) (by rfl) ?_ ?_
    · (intro w1 hC; have f0 := (HC1.out _ hC.1).2.2.1; clear hC; go_simp; first | done | (simp; done) | (simp [*]; done) | omega | (simp; omega) | rfl)
    simp only [Act.put, List.setIfInBounds_toArray, List.set_cons_zero, List.set_cons_succ]
    refine q_run (v := .pointer (some ⟨R, 0, none⟩)) (by rfl) ?_ ?_
    · (intro w1 hC; clear hC; go_simp; first | done | (simp; done) | (simp [*]; done) | omega | (simp; omega) | rfl)
    simp only [Act.put, List.setIfInBounds_toArray, List.set_cons_zero, List.set_cons_succ]
    refine q_run (v := .pointer (some ⟨R, 0, none⟩)) (by rfl) ?_ ?_
    · (intro w1 hC; clear hC; go_simp; first | done | (simp; done) | (simp [*]; done) | omega | (simp; omega) | rfl)
    simp only [Act.put, List.setIfInBounds_toArray, List.set_cons_zero, List.set_cons_succ]
    refine q_run (v := .pointer (some ⟨R, 4, none⟩)) (by rfl) ?_ ?_
    · (intro w1 hC; clear hC; go_simp; first | done | (simp; done) | (simp [*]; done) | omega | (simp; omega) | rfl)
    simp only [Act.put, List.setIfInBounds_toArray, List.set_cons_zero, List.set_cons_succ]
    refine q_run (v := .int .i64 st) (by rfl) ?_ ?_
    · (intro w1 hC; have f0 := (HC1.out _ hC.1).2.2.2.2; clear hC; go_simp; first | done | (simp; done) | (simp [*]; done) | omega | (simp; omega) | rfl)
    simp only [Act.put, List.setIfInBounds_toArray, List.set_cons_zero, List.set_cons_succ]
    refine q_run (v := .int .i64 (a - st)) (by rfl) ?_ ?_
    · (intro w1 hC; clear hC; go_simp; first | done | (simp; done) | (simp [*]; done) | omega | (simp; omega) | rfl)
    simp only [Act.put, List.setIfInBounds_toArray, List.set_cons_zero, List.set_cons_succ]
    refine q_run (v := .int .i64 (a - st + 1)) (by rfl) ?_ ?_
    · (intro w1 hC; clear hC; go_simp; first | done | (simp; done) | (simp [*]; done) | omega | (simp; omega) | rfl)
    simp only [Act.put, List.setIfInBounds_toArray, List.set_cons_zero, List.set_cons_succ]
    refine q_run (v := .agg #[.int .i64 e, .int .i64 ln, .int .i64 (a - st + 1)]) (by rfl) ?_ ?_
    · (intro w1 hC; clear hC; go_simp; first | done | (simp; done) | (simp [*]; done) | omega | (simp; omega) | rfl)
    simp only [Act.put, List.setIfInBounds_toArray, List.set_cons_zero, List.set_cons_succ]
    refine wpQuiet_nil ?_
    simp only [putAll, Act.put, List.setIfInBounds_toArray, List.set_cons_zero, List.set_cons_succ]
  case fin =>
    intro W hC
    simp only [putAll, Act.put, List.setIfInBounds_toArray, List.set_cons_zero, List.set_cons_succ]
    dsimp only [List.drop]
    have hz := hC.2
    have c0 := at_blk hz 0 (.int .i64 0) rfl
    have c1 := at_blk hz 1 (.int .i64 0) rfl
    have c2 := at_blk hz 2 (.int .i64 0) rfl
    have g0 := fr_blk5 (j := 0) hz
    have g1 := fr_blk5 (j := 1) hz
    have g2 := fr_blk5 (j := 2) hz
    have HB := hidR ((((keepb hC.1 HB0.out).setCell (p := ⟨w.heap.size, 0, none⟩) (Nat.le_refl _) (.int .i64 e)).setCell (p := ⟨w.heap.size, 1, none⟩) (Nat.le_refl _) (.int .i64 ln)).setCell (p := ⟨w.heap.size, 2, none⟩) (Nat.le_refl _) (.int .i64 (a - st + 1)))
    clear hC hz
    go_wp2
    exact bodyPost_ret (v := .agg #[.int .i64 e, .int .i64 ln, .int .i64 (a - st + 1)]) (by simp [results, Tryz.results72, go_sem, c0, c1, c2]) rfl ⟨rfl, HB.out⟩
end
set_option maxHeartbeats 4000000 in
theorem nextHop_any (t : ByteArray) (w : World) (hs : t.size ≤ 1000000000) :
    Calls Tryz.prog 73 #[.string t] w fun e w' => e = .returned (.tuple #[.int .i64 ((nhO t).getD 0), .bool (nhO t).isSome]) ∧ w' = w := by
  have KH := fun n w => isHop_any n w
  go_enter Tryz.func73, Tryz.ntmps73
  go_wp2_with fail
  go_loopw [4, 8] (fun a b wr => ∃ (k : Nat) (n : Int), a = .int .i64 n ∧ b = .int .i64 k ∧ k ≤ t.size ∧ 0 ≤ n ∧ n ≤ 65535 ∧ Hid (nhR t (t.size - k) k n = nhR t t.size 0 0) ∧ wr = w) (fun _ b _ => t.size - (intOf b).toNat)
  case atStart => exact ⟨0, 0, rfl, rfl, by omega, by omega, by omega, rfl, rfl⟩
  case round =>
    obtain ⟨k, n, rfl, rfl, hk, g0, g1, HR, rfl⟩ := hrel
    by_cases hlt : k < t.size
    · have hbt := byteAt_in t k hlt
      have bd := byteAt_bd t k
      have HU : Hid (t.size - k = (t.size - (k + 1)) + 1) := by show _ = _; omega
      have HS : Hid (∀ f, nhR t (f + 1) k n = if byteAt t k < 48 ∨ 57 < byteAt t k then none else if hopB (10 * n + (byteAt t k - 48)) = true then nhR t f (k + 1) (10 * n + (byteAt t k - 48)) else none) := fun f => rfl
      generalize byteAt t k = c at *
      have hk2 : (k : Int) < (t.size : Int) := by omega
      by_cases d0 : c < 48
      · have HF : Hid ((nhO t).getD 0 = 0 ∧ (nhO t).isSome = false) := by
          show _ ∧ _
          unfold nhO; rw [← HR.out, HU.out, HS.out, if_pos (Or.inl d0)]; exact ⟨rfl, rfl⟩
        clear HS HU HR KH
        go_wp2
        go_ret2
        exact ⟨by rw [HF.out.1, HF.out.2]; rfl, rfl⟩
      by_cases d1 : 57 < c
      · have HF : Hid ((nhO t).getD 0 = 0 ∧ (nhO t).isSome = false) := by
          show _ ∧ _
          unfold nhO; rw [← HR.out, HU.out, HS.out, if_pos (Or.inr d1)]; exact ⟨rfl, rfl⟩
        clear HS HU HR KH
        go_wp2
        go_ret2
        exact ⟨by rw [HF.out.1, HF.out.2]; rfl, rfl⟩
      · have u1 : IntKind.u8.wrap (c - 48) = c - 48 := by simp [IntKind.wrap, IntKind.bits, IntKind.signed]; omega
        have u2 : IntKind.i64.wrap (10 * n) = 10 * n := by rw [IntKind.wrap_i64]; omega
        have u3 : IntKind.i64.wrap (10 * n + (c - 48)) = 10 * n + (c - 48) := by rw [IntKind.wrap_i64]; omega
        have u4 : IntKind.i64.wrap (c - 48) = c - 48 := by rw [IntKind.wrap_i64]; omega
        have wk : IntKind.i64.wrap ((k : Int) + 1) = ((k + 1 : Nat) : Int) := by rw [IntKind.wrap_i64]; push_cast; omega
        have KH2 := KH (10 * n + (c - 48)) wr
        cases hb : hopB (10 * n + (c - 48)) with
        | false =>
          have HF : Hid ((nhO t).getD 0 = 0 ∧ (nhO t).isSome = false) := by
            show _ ∧ _
            unfold nhO; rw [← HR.out, HU.out, HS.out, if_neg (by omega), if_neg (by rw [hb]; simp)]; exact ⟨rfl, rfl⟩
          rw [hb] at KH2
          clear HS HU HR KH hb
          go_wp2_with fail
          refine KH2.mono ?_
          rintro e w1 ⟨rfl, rfl⟩
          clear KH2
          go_wp2
          go_ret2
          exact ⟨by rw [HF.out.1, HF.out.2]; rfl, rfl⟩
        | true =>
          have HF : Hid (nhR t (t.size - (k + 1)) (k + 1) (10 * n + (c - 48)) = nhR t t.size 0 0) := by
            show _ = _
            rw [← HR.out, HU.out, HS.out, if_neg (by omega), if_pos hb]
          have hn : 10 * n + (c - 48) ≤ 65535 ∧ 0 ≤ 10 * n + (c - 48) := by
            unfold hopB at hb
            rw [Bool.and_eq_true, decide_eq_true_eq, decide_eq_true_eq] at hb
            omega
          rw [hb] at KH2
          obtain ⟨hn1, hn2⟩ := hn
          clear HS HU HR KH hb
          go_wp2_with fail
          refine KH2.mono ?_
          rintro e w1 ⟨rfl, rfl⟩
          clear KH2
          go_wp2
          go_roundw
          case rel => exact ⟨k + 1, 10 * n + (c - 48), rfl, by first | rfl | (simp only [wk]), by omega, hn2, hn1, HF, trivial⟩
          case measure => simp [intOf]; omega
    · have HF : Hid ((nhO t).getD 0 = n ∧ (nhO t).isSome = true) := by
        show _ ∧ _
        have e : t.size - k = 0 := by omega
        unfold nhO; rw [← HR.out, e]; exact ⟨rfl, rfl⟩
      have hk2 : ¬ (k : Int) < (t.size : Int) := by omega
      clear HR KH
      go_wp2
      go_ret2
      exact ⟨by rw [HF.out.1, HF.out.2]; rfl, rfl⟩
end Go.Proofs.YtmeaikmmhgmgnaaGreat
