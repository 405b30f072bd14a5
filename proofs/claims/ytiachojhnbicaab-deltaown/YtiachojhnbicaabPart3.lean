/-
  Part 3 of the proof: 3 texts, one behind the other.
-/
import Derived.Test.YtiachojhnbicaabPart2
import Derived.Deep.Slices
import Derived.Laws.OwnMore
import Derived.Test.YtiachojhnbicaabPart1
namespace Go.Proofs.Ytiachojhnbicaab
open Go.RowKit Go.Shelf
set_option linter.unusedSimpArgs false
set_option linter.unusedVariables false

set_option maxRecDepth 20000 in
set_option maxHeartbeats 2000000 in
theorem equal21 (v u : Value) (a b : List Nat) (w : World) (hv : RwX cB w v a) (hu : RwX cB w u b) (hx : ∀ z ∈ a, z < 256) (hy : ∀ z ∈ b, z < 256) :
    Calls Try.prog 9 #[v, u] w fun e w' => e = .returned (.bool (decide (a = b))) ∧ Below w.heap.size w w' := by
  have c1 := conv13 hv hx
  have c2 := conv13 hu hy
  have hb := bsA_eq hx hy
  obtain ⟨ao, c, hvf, -⟩ := id hv
  obtain ⟨bo, d, huf, -⟩ := id hu
  subst hvf huf
  generalize bsA a = s at *
  generalize bsA b = t at *
  obtain ⟨q, hq⟩ : ∃ q, q = decide (a = b) := ⟨_, rfl⟩
  rw [← hq] at hb ⊢
  clear hq hv hu hx hy
  go_enter Try.func9, Try.ntmps9
  go_wp2
  go_ret
  exact ⟨by first | rfl | (rw [← hb]; rfl), Below.refl _ _⟩
set_option maxRecDepth 20000 in
set_option maxHeartbeats 2000000 in
theorem clone21 (v : Value) (l : List Nat) (w : World) (hA : RowA w 1 v l.length (l.map cB)) (hl : l.length ≤ 140737480000000) :
    Calls Try.prog 12 #[v] w fun e w' => ∃ v', e = .returned v' ∧ w'.ownsRow w.heap.size 5 1 v' l.length (l.map cB) ∧ Below w.heap.size w w' := by
  obtain ⟨i0, hi, hz0, hz1, hz2⟩ := info13 Try.infoB13
  obtain ⟨-, ao, c, hvf, -⟩ := id hA
  subst hvf
  have hq : ∀ (w : World) (a : Option Addr) (n c n' c' : Nat), (binOp .eql 22 (.slice a n c) (.slice none n' c')).run Try.prog w = .ok (.bool a.isNone) w := fun w a n c n' c' => Lib.run_eql_slice_nil w 22 5 a n c n' c' Try.underlying22
  have q3 := bl1 w (.cells #[] 5)
  have HR3 := hid13 (hA.below q3)
  have HO3 : Hid ((w.alloc (.cells #[] 5)).ownsRow w.heap.size 5 1 (.slice (some ⟨w.heap.size, 0, none⟩) 0 0) 0 []) := World.ownsRow_made w #[] 0 (Nat.le_refl _) (by unfold maxLen; omega) (by simp)
  have HQ := hid13 q3
  cases ao with
  | none =>
    have hl0 : l = [] := by
      obtain ⟨-, ao', c', e, -, h⟩ := hA
      injection e with e1 e2 e3
      subst e1
      rcases h with ⟨-, -, h⟩ | ⟨b, h, -⟩
      · simpa using h
      · cases h
    subst hl0
    clear hA q3 HR3 HO3 HQ
    go_enter Try.func12, Try.ntmps12
    go_wp2
    go_ret
    exact ⟨_, rfl, World.ownsRow_nil _ _ _ _, Below.refl _ _⟩
  | some ad =>
    clear hA
    go_enter Try.func12, Try.ntmps12
    go_wp2_with (at_builtin; apply stopHere9)
    refine (show wpList _ _ _ _ _ _ from ?_)
    refine wpList_append_rowA rfl _ _ 22 rfl w.heap.size 5 i0 (.int .u8 0) 1 1 Try.underlying22 hi hz0 hz1 hz2 rfl (by decide) _ 0 [] rfl HO3.out _ l.length (l.map cB) rfl HR3.out (cB_one l) (by unfold maxLen; omega) (by omega) q3.size ?_
    intro ao4 c4 w4 hO4 hg4
    rw [Nat.zero_add, List.nil_append] at hO4
    rw [Nat.zero_add]
    have HB4 : Hid (Below w.heap.size w w4) := hid13 (HQ.out.grown hg4 HQ.out.size (fun z hz => (HO3.out.lt z hz).1))
    have HO4 := hid13 hO4
    clear hO4 hg4 q3 HR3 HO3 HQ
    go_wp2
    go_ret
    exact ⟨_, rfl, HO4.out, HB4.out⟩
theorem rowA_mid21 {W : World} {ao : Option Addr} {n c k z : Nat} {l : List Nat} (h : RowA W 1 (.slice ao n c) n (l.map cB)) (hk : k + z ≤ n) : RowA W 1 (.slice (if c = k then ao else ao.map (·.add (k * 1))) z (c - k)) z (((l.drop k).take z).map cB) := by
  obtain ⟨hl, ao', c', e, hc, h⟩ := h
  injection e with e1 e2 e3
  subst e1 e3
  rw [List.length_map, Nat.mul_one] at hl
  refine ⟨by rw [List.length_map, List.length_take, List.length_drop]; omega, _, _, rfl, by omega, ?_⟩
  rcases h with ⟨rfl, rfl, rfl⟩ | ⟨a, rfl, h⟩
  · left
    exact ⟨by split <;> rfl, by omega, by omega⟩
  · right
    by_cases hck : c = k
    · subst hck
      refine ⟨a, by simp, fun j u hj => ?_⟩
      have hj' := (List.getElem?_eq_some_iff.1 hj).1
      rw [List.length_map, List.length_take, List.length_drop] at hj'
      omega
    · refine ⟨a.add (k * 1), by rw [if_neg hck]; rfl, fun j u hj => ?_⟩
      have hj' := (List.getElem?_eq_some_iff.1 hj).1
      rw [List.length_map, List.length_take, List.length_drop] at hj'
      rw [List.getElem?_map, List.getElem?_take_of_lt (by omega), List.getElem?_drop, ← List.getElem?_map] at hj
      have := h (k + j) u hj
      rw [Deep.add_add, Nat.mul_one]
      exact this
def DfO (base : Nat) (W : World) (v : Value) (a b : List Nat) : Prop :=
  if a = b then v = .slice none 0 0 else ∃ z vx, v = .slice (some ⟨z, 0, none⟩) 1 1 ∧ W.ownsRow base 28 3 v 1 [.int .i64 (dfP a b).k, .int .i64 (dfP a b).d, vx] ∧ W.ownsRow base 5 1 vx (dfP a b).x.length ((dfP a b).x.map cB) ∧ vx.ownBlock ≠ some z
set_option maxRecDepth 20000 in
set_option maxHeartbeats 4000000 in
theorem diff21 (v u : Value) (a b : List Nat) (w : World) (hv : RwX cB w v a) (hu : RwX cB w u b) (hA : RowA w 1 v a.length (a.map cB)) (hB : RowA w 1 u b.length (b.map cB)) (hx : ∀ z ∈ a, z < 256) (hy : ∀ z ∈ b, z < 256) (hl : a.length ≤ 140737480000000) (hl2 : b.length ≤ 140737480000000) :
    Calls Try.prog 5 #[v, u] w fun e w' => ∃ v', e = .returned v' ∧ DfO w.heap.size w' v' a b ∧ Below w.heap.size w w' := by
  obtain ⟨i0, hi, hz0, hz1, hz2⟩ := info13 Try.infoB13
  have K1 := equal21 v u a b w hv hu hx hy
  obtain ⟨ao, c, hvf, hc, -⟩ := id hv
  obtain ⟨bo, d, huf, hd, -⟩ := id hu
  subst hvf huf
  by_cases hab : a = b
  · have HD : Hid (∀ w', DfO w.heap.size w' (.slice none 0 0) a b) := by
      intro w'
      unfold DfO
      rw [if_pos hab]
    rw [decide_eq_true hab] at K1
    clear hv hu hA hB hx hy hl hl2 hab hi hz0 hz1 hz2 hc hd
    go_enter Try.func5, Try.ntmps5
    go_wp2_with fail
    refine K1.mono ?_
    rintro e w1 ⟨rfl, hb⟩
    have HB1 := hid13 hb
    clear hb K1
    go_wp2
    go_ret
    exact ⟨_, rfl, HD.out _, HB1.out⟩
  · rw [decide_eq_false hab] at K1
    have HD : Hid (∀ w' v', (∃ z vx, v' = .slice (some ⟨z, 0, none⟩) 1 1 ∧ w'.ownsRow w.heap.size 28 3 v' 1 [.int .i64 (dfP a b).k, .int .i64 (dfP a b).d, vx] ∧ w'.ownsRow w.heap.size 5 1 vx (dfP a b).x.length ((dfP a b).x.map cB) ∧ vx.ownBlock ≠ some z) → DfO w.heap.size w' v' a b) := by
      intro w' v' h
      unfold DfO
      rw [if_neg hab]
      exact h
    have hle := df_le a b
    have hXl := dfX_len a b
    obtain ⟨K, hK⟩ : ∃ K, K = dfK a b := ⟨_, rfl⟩
    obtain ⟨T, hT⟩ : ∃ T, T = dfT a b := ⟨_, rfl⟩
    have eP : dfP a b = ⟨(K : Int), (a.length : Int) - K - T, (b.drop K).take (b.length - K - T)⟩ := by unfold dfP dfX; rw [← hK, ← hT]
    rw [← hK, ← hT] at hle hXl
    have HV : Hid (RwX cB w (.slice ao a.length c) a ∧ RwX cB w (.slice bo b.length d) b ∧ RowA w 1 (.slice bo b.length d) b.length (b.map cB)) := ⟨hv, hu, hB⟩
    have HL : Hid (a.length ≤ 140737480000000 ∧ b.length ≤ 140737480000000 ∧ K + T ≤ a.length ∧ K + T ≤ b.length) := ⟨hl, hl2, hle.1, hle.2⟩
    have HKT : Hid (cpN a b = K ∧ csN (a.drop K) (b.drop K) = T) := ⟨hK.symm, by rw [hT, hK]; rfl⟩
    have kn : (K : Int) ≤ (a.length : Int) := by omega
    obtain ⟨avo, hav⟩ : ∃ x : Option Addr, x = (if c = K then ao else ao.map (·.add (K * 1))) := ⟨_, rfl⟩
    obtain ⟨bvo, hbv⟩ : ∃ x : Option Addr, x = (if d = K then bo else bo.map (·.add (K * 1))) := ⟨_, rfl⟩
    have s1 : ∀ X, Sem.run Try.prog (Instr.sliceAt 22 (.slice ao a.length c) (some (.int .i64 (K : Int))) none none) X = .ok (.slice avo (a.length - K) (c - K)) X := fun X => by
      rw [hav]; exact run_slice_from (P := Try.prog) (w := X) Try.underlying22 hi hz1 ao a.length c K (by omega)
    have s2 : ∀ X, Sem.run Try.prog (Instr.sliceAt 22 (.slice bo b.length d) (some (.int .i64 (K : Int))) none none) X = .ok (.slice bvo (b.length - K) (d - K)) X := fun X => by
      rw [hbv]; exact run_slice_from (P := Try.prog) (w := X) Try.underlying22 hi hz1 bo b.length d K (by omega)
    have s3 : ∀ X, Sem.run Try.prog (Instr.sliceAt 22 (.slice bvo (b.length - K) (d - K)) none (some (.int .i64 ((b.length - K - T : Nat) : Int))) none) X = .ok (.slice bvo (b.length - K - T) (d - K)) X := fun X => run_slice_to (P := Try.prog) (w := X) Try.underlying22 hi bvo (b.length - K) (d - K) (b.length - K - T) (by omega)
    have HSl : Hid (∀ W, RwX cB W (.slice ao a.length c) a → RwX cB W (.slice bo b.length d) b → RwX cB W (.slice avo (a.length - K) (c - K)) (a.drop K) ∧ RwX cB W (.slice bvo (b.length - K) (d - K)) (b.drop K)) := by
      intro W h1 h2
      rw [hav, hbv]
      exact ⟨rwx_from h1 (by omega), rwx_from h2 (by omega)⟩
    have HSm : Hid (∀ W, RowA W 1 (.slice bo b.length d) b.length (b.map cB) → RowA W 1 (.slice bvo (b.length - K - T) (d - K)) (b.length - K - T) (((b.drop K).take (b.length - K - T)).map cB)) := by
      intro W h
      rw [hbv]
      exact rowA_mid21 h (by omega)
    have wa : IntKind.i64.wrap (((a.length - K : Nat) : Int) - (T : Int)) = (a.length : Int) - K - T := by rw [IntKind.wrap_i64]; omega
    have wb : IntKind.i64.wrap (((b.length - K : Nat) : Int) - (T : Int)) = ((b.length - K - T : Nat) : Int) := by rw [IntKind.wrap_i64]; omega
    rw [eP] at HD
    clear hv hu hA hB hx hy hl hl2 hab hK hT eP hle hXl hav hbv
    go_enter Try.func5, Try.ntmps5
    go_wp2_with fail
    refine K1.mono ?_
    rintro e w1 ⟨rfl, hb⟩
    have HB1 := hid13 hb
    clear hb K1
    go_wp2_with fail
    refine (first21 _ _ a b w1 (HV.out.1.below HB1.out) (HV.out.2.1.below HB1.out) (by have := HL.out; omega)).mono ?_
    rintro e w2 ⟨rfl, hb⟩
    have HB2 : Hid (Below w.heap.size w w2) := hid13 (keepb hb HB1.out)
    rw [HKT.out.1]
    clear hb HB1
    go_wp2
    go_quiet (fail)
    have HB3 : Hid (Below w.heap.size w (w2.drewN nq)) := below_drewN HB2.out nq
    clear HB2 s1 s2
    go_wp2_with fail
    obtain ⟨g1, g2⟩ := HSl.out _ (HV.out.1.below HB3.out) (HV.out.2.1.below HB3.out)
    refine (last21 _ _ (a.drop K) (b.drop K) _ g1 g2 (by rw [List.length_drop]; have := HL.out; omega) (by rw [List.length_drop]; have := HL.out; omega)).mono ?_
    rintro e w3 ⟨rfl, hb⟩
    have HB4 : Hid (Below w.heap.size w w3) := hid13 (keepb hb HB3.out)
    rw [HKT.out.2]
    clear hb HB3 g1 g2
    go_wp2_with fail
    have g3 := HSm.out _ (HV.out.2.2.below HB4.out)
    have hXl : ((b.drop K).take (b.length - K - T)).length = b.length - K - T := by rw [List.length_take, List.length_drop]; omega
    rw [← hXl] at g3 ⊢
    refine (clone21 _ _ _ (by rw [hXl] at g3 ⊢; exact g3) (by rw [hXl]; have := HL.out; omega)).mono ?_
    rintro e w4 ⟨vx, rfl, ho, hb⟩
    have HB5 : Hid (Below w.heap.size w w4) := hid13 (keepb hb HB4.out)
    have HO5 := hid13 (own_base16 ho HB4.out.size)
    obtain ⟨xo, xc, hvx⟩ := own_form ho
    subst hvx
    clear hb ho g3 s3
    have q6 := bl1 w4 (.cells #[.int .i64 (K : Int), .int .i64 ((a.length : Int) - K - T), .slice xo ((b.drop K).take (b.length - K - T)).length xc] 28)
    have HB6 : Hid (Below w.heap.size w _) := hid13 (keepb q6 HB5.out)
    have HO6 := hid13 (own_b13 q6 HO5.out)
    have HO7 : Hid ((w4.alloc (.cells #[.int .i64 (K : Int), .int .i64 ((a.length : Int) - K - T), .slice xo ((b.drop K).take (b.length - K - T)).length xc] 28)).ownsRow w.heap.size 28 3 (.slice (some ⟨w4.heap.size, 0, none⟩) 1 1) 1 [.int .i64 (K : Int), .int .i64 ((a.length : Int) - K - T), .slice xo ((b.drop K).take (b.length - K - T)).length xc]) := World.ownsRow_lit (base := w.heap.size) (e := 28) (size := 3) w4 _ 1 HB5.out.size (by unfold maxLen; omega) rfl
    have HN : Hid ((Value.slice xo ((b.drop K).take (b.length - K - T)).length xc).ownBlock ≠ some w4.heap.size) := by
      intro e
      have := (HO5.out.lt _ e).2
      omega
    rw [hXl] at HO6 HO7 HN q6 HB6
    clear q6 HO5 HB5
    go_wp2
    go_ret
    exact ⟨_, rfl, HD.out _ _ ⟨_, _, rfl, HO7.out, by rw [hXl]; exact HO6.out, HN.out⟩, HB6.out⟩
end Go.Proofs.Ytiachojhnbicaab
namespace Go.Proofs.Ytiachojhnbicaab
open Go.RowKit
set_option linter.unusedSimpArgs false
set_option linter.unusedVariables false

def TwI (W : World) (B : Nat) (i j : Ins) (v u : Value) : Prop := AtI W B i.op i.n v ∧ AtI W (B + 1) j.op j.n u ∧ RwX cU W v i.m ∧ RwX cU W u j.m
theorem TwI.below {W W' : World} {B : Nat} {i j : Ins} {v u : Value} (h : TwI W B i j v u) (hb : Below W.heap.size W W') : TwI W' B i j v u := ⟨h.1.below hb, h.2.1.below hb, h.2.2.1.below hb, h.2.2.2.below hb⟩
end Go.Proofs.Ytiachojhnbicaab
namespace Go.Proofs.Ytiachojhnbicaab
open Go.RowKit Go.Shelf
set_option linter.unusedSimpArgs false
set_option linter.unusedVariables false

def PtR21 (w : World) (v : Value) (L : List Pt) : Prop := ∃ ao c, v = .slice ao L.length c ∧ L.length ≤ c ∧ (L = [] ∨ ∃ b off, ao = some ⟨b, off, none⟩ ∧ ∀ j p, L[j]? = some p → ∃ vx, w.cell? ⟨b, off + j * 3, none⟩ = some (.int .i64 p.k) ∧ w.cell? ⟨b, off + j * 3 + 1, none⟩ = some (.int .i64 p.d) ∧ w.cell? ⟨b, off + j * 3 + 2, none⟩ = some vx ∧ RwX cB w vx p.x ∧ RowA w 1 vx p.x.length (p.x.map cB))
theorem PtR21.below {w w' : World} {v : Value} {L : List Pt} (h : PtR21 w v L) (hb : Below w.heap.size w w') : PtR21 w' v L := by
  obtain ⟨ao, c, e, hc, h⟩ := h
  refine ⟨ao, c, e, hc, h.imp id ?_⟩
  rintro ⟨b, off, e, h⟩
  refine ⟨b, off, e, fun j p hj => ?_⟩
  obtain ⟨vx, h1, h2, h3, h4, h5⟩ := h j p hj
  exact ⟨vx, keepc hb h1, keepc hb h2, keepc hb h3, h4.below hb, h5.below hb⟩
theorem ptr_at {w : World} {ao : Option Addr} {n c : Nat} {L : List Pt} (h : PtR21 w (.slice ao n c) L) {j : Nat} {p : Pt} (hj : L[j]? = some p) : ∃ b off xo xc, ao = some ⟨b, off, none⟩ ∧ w.cell? ⟨b, off + j * 3, none⟩ = some (.int .i64 p.k) ∧ w.cell? ⟨b, off + j * 3 + 1, none⟩ = some (.int .i64 p.d) ∧ w.cell? ⟨b, off + j * 3 + 2, none⟩ = some (.slice xo p.x.length xc) ∧ RwX cB w (.slice xo p.x.length xc) p.x ∧ RowA w 1 (.slice xo p.x.length xc) p.x.length (p.x.map cB) := by
  obtain ⟨ao', c', e, hc, h⟩ := h
  injection e with e1 e2 e3
  subst e1
  rcases h with h | ⟨b, off, e2, h⟩
  · rw [h] at hj; cases hj
  · obtain ⟨vx, h1, h2, h3, h4, h5⟩ := h j p hj
    obtain ⟨xo, xc, hx, -⟩ := id h4
    subst hx
    exact ⟨b, off, xo, xc, e2, h1, h2, h3, h4, h5⟩
theorem dfo_ptr {base : Nat} {W : World} {v : Value} {a b : List Nat} (h : DfO base W v a b) : PtR21 W v (dfL a b) := by
  unfold DfO at h
  unfold dfL
  by_cases hab : a = b
  · rw [if_pos hab] at h ⊢
    exact ⟨none, 0, h, Nat.le_refl _, .inl rfl⟩
  · rw [if_neg hab] at h ⊢
    obtain ⟨z, vx, rfl, h1, h2, -⟩ := h
    refine ⟨_, 1, rfl, Nat.le_refl _, .inr ⟨z, 0, rfl, fun j p hj => ?_⟩⟩
    have hj0 : j = 0 := by have := (List.getElem?_eq_some_iff.1 hj).1; simpa using this
    subst hj0
    simp only [List.getElem?_cons_zero, Option.some.injEq] at hj
    subst hj
    refine ⟨vx, ?_, ?_, ?_, own_rwx h2, own_rowA h2⟩
    · exact (h1.cellAt 0 (by decide)).trans rfl
    · exact (h1.cellAt 1 (by decide)).trans rfl
    · exact (h1.cellAt 2 (by decide)).trans rfl
theorem dfX_lt {a b : List Nat} (hy : ∀ z ∈ b, z < 256) : ∀ z ∈ dfX a b, z < 256 := fun z h => hy z (List.mem_of_mem_drop (List.mem_of_mem_take h))
theorem dfL_lt {a b : List Nat} (hy : ∀ z ∈ b, z < 256) : ∀ p ∈ dfL a b, ∀ z ∈ p.x, z < 256 := by
  intro p hp
  unfold dfL at hp
  split at hp
  · cases hp
  · rw [List.mem_singleton] at hp
    subst hp
    exact dfX_lt hy
def wt21 (L : List Pt) : Nat := (L.map fun p => p.x.length).sum
theorem wt21_take {L : List Pt} {k : Nat} {p : Pt} (h : L[k]? = some p) : wt21 (L.take (k + 1)) = wt21 (L.take k) + p.x.length := by
  unfold wt21
  rw [List.take_add_one, h]
  simp
theorem wt21_le {L : List Pt} (k : Nat) : wt21 (L.take k) ≤ wt21 L := by
  unfold wt21
  conv => rhs; rw [← List.take_append_drop k L]
  rw [List.map_append, List.sum_append]
  omega
def keyP (p : Pt) : Int × Int × List Nat := (p.k, p.d, p.x)
def smL (L M : List Pt) : Bool := decide (L.map keyP = M.map keyP)
theorem keyP_inj {p q : Pt} (h : keyP p = keyP q) : p = q := by
  cases p; cases q
  unfold keyP at h
  simpa using h
theorem map_key_inj : ∀ {L M : List Pt}, L.map keyP = M.map keyP → L = M
  | [], [], _ => rfl
  | [], _ :: _, h => by cases h
  | _ :: _, [], h => by cases h
  | p :: L, q :: M, h => by
    rw [List.map_cons, List.map_cons] at h
    injection h with h1 h2
    rw [keyP_inj h1, map_key_inj h2]
theorem smL_iff (L M : List Pt) : smL L M = true ↔ L = M := by
  unfold smL
  rw [decide_eq_true_eq]
  exact ⟨map_key_inj, fun h => by rw [h]⟩
theorem smL_self (L : List Pt) : smL L L = true := (smL_iff L L).2 rfl
theorem smL_ne {L M : List Pt} (h : L ≠ M) : smL L M = false := by
  cases e : smL L M with
  | false => rfl
  | true => exact absurd ((smL_iff L M).1 e) h
def Bp21 (W : World) (v u : Value) (L M : List Pt) : Prop := PtR21 W v L ∧ PtR21 W u M
theorem Bp21.below {W W' : World} {v u : Value} {L M : List Pt} (h : Bp21 W v u L M) (hb : Below W.heap.size W W') : Bp21 W' v u L M := ⟨h.1.below hb, h.2.below hb⟩
set_option maxRecDepth 100000 in
set_option maxHeartbeats 8000000 in
theorem same21 (v u : Value) (L M : List Pt) (w : World) (hv : PtR21 w v L) (hu : PtR21 w u M) (hx : ∀ p ∈ L, ∀ z ∈ p.x, z < 256) (hy : ∀ p ∈ M, ∀ z ∈ p.x, z < 256) (hl : L.length ≤ 140737488355328) :
    Calls Try.prog 7 #[v, u] w fun e w' => e = .returned (.bool (smL L M)) ∧ Below w.heap.size w w' := by
  obtain ⟨ao, c, hvf, -⟩ := id hv
  obtain ⟨bo, d, huf, -⟩ := id hu
  subst hvf huf
  have HB : Hid (Below w.heap.size w w) := Below.refl _ _
  by_cases hlen : L.length = M.length
  rotate_left 1
  · have e1 : (((L.length : Nat) : Int) != ((M.length : Nat) : Int)) = true := by simp; omega
    rw [smL_ne (fun e => hlen (by rw [e]))]
    clear hv hu hx hy hl hlen
    go_enter Try.func7, Try.ntmps7
    go_wp2
    go_ret
    exact ⟨rfl, HB.out⟩
  have e1 : (((L.length : Nat) : Int) != ((M.length : Nat) : Int)) = false := by simp; omega
  have HT : Hid (Bp21 w (.slice ao L.length c) (.slice bo M.length d) L M) := ⟨hv, hu⟩
  have HL : Hid (L.length ≤ 140737488355328 ∧ L.length = M.length) := ⟨hl, hlen⟩
  have HX := hid13 hx
  have HY := hid13 hy
  clear hv hu hx hy hl hlen
  go_enter Try.func7, Try.ntmps7
  go_wp2
  clear e1
  go_loopg [5] L.length (fun g x wr => ∃ (k : Nat), k + g = L.length ∧ x = .int .i64 (k : Int) ∧ Hid (Bp21 wr (.slice ao L.length c) (.slice bo M.length d) L M ∧ Below w.heap.size w wr) ∧ Hid (L.take k = M.take k))
  case atStart => exact ⟨0, by omega, rfl, ⟨HT.out, HB.out⟩, by show _ = _; simp⟩
  case round =>
    clear HT HB
    obtain ⟨k, hk, rfl, HW, HP⟩ := hrel
    by_cases hlt : k < L.length
    rotate_left 1
    · have l1 : ¬ (k : Int) < (L.length : Int) := by omega
      have HF : Hid (smL L M = true) := by
        show _ = _
        rw [smL_iff]
        have := HP.out
        rw [List.take_of_length_le (by omega), List.take_of_length_le (by have := HL.out; omega)] at this
        exact this
      clear HP hlt hk
      go_wp2
      go_ret
      exact ⟨by rw [HF.out]; rfl, HW.out.2⟩
    have hlt2 : k < M.length := by have := HL.out; omega
    have l1 : (k : Int) < (L.length : Int) := by omega
    have l2 : (k : Int) < (M.length : Int) := by omega
    obtain ⟨p, hp⟩ : ∃ p, L[k]? = some p := ⟨L[k], by simp [hlt]⟩
    obtain ⟨q, hq⟩ : ∃ q, M[k]? = some q := ⟨M[k], by simp [hlt2]⟩
    obtain ⟨b1, f1, xo, xc, hao, r0, r1, r2, r3, -⟩ := ptr_at HW.out.1.1 hp
    obtain ⟨b2, f2, yo, yc, hbo, s0, s1, s2, s3, -⟩ := ptr_at HW.out.1.2 hq
    subst hao hbo
    have hpx := HX.out p (List.mem_of_getElem? hp)
    have hqx := HY.out q (List.mem_of_getElem? hq)
    have mk : IntKind.i64.wrap ((k : Int) + 1) = (k : Int) + 1 := by rw [IntKind.wrap_i64]; have := HL.out; omega
    have HK : Hid (k < L.length ∧ k + gk = L.length) := ⟨hlt, hk⟩
    have HD : Hid (p ≠ q → smL L M = false) := by
      intro hne
      refine smL_ne (fun e => hne ?_)
      rw [e, hq] at hp
      injection hp with hp
      exact hp.symm
    have HE : Hid (p = q → L.take (k + 1) = M.take (k + 1)) := by
      intro e
      rw [List.take_add_one, List.take_add_one, hp, hq, HP.out, e]
    clear hp hq hlt hlt2 hk HP
    by_cases h1 : p.k = q.k
    rotate_left 1
    · have e1 : (p.k != q.k) = true := by simpa using h1
      have HF : Hid (smL L M = false) := HD.out (fun e => h1 (by rw [e]))
      clear h1 r1 r2 r3 s1 s2 s3 hpx hqx
      go_wp2
      go_quiet (fail)
      have HB3 : Hid (Below w.heap.size w (wr.drewN nq)) := below_drewN HW.out.2 nq
      clear HW r0 s0
      go_wp2
      go_ret
      exact ⟨by rw [HF.out]; rfl, HB3.out⟩
    have e1 : (p.k != q.k) = false := by simpa using h1
    by_cases h2 : p.d = q.d
    rotate_left 1
    · have e2 : (p.d != q.d) = true := by simpa using h2
      have HF : Hid (smL L M = false) := HD.out (fun e => h2 (by rw [e]))
      clear h1 h2 r2 r3 s2 s3 hpx hqx
      go_wp2
      go_quiet (fail)
      have HB3 : Hid (Below w.heap.size w (wr.drewN nq)) := below_drewN HW.out.2 nq
      clear HW r0 s0 r1 s1
      go_wp2
      go_ret
      exact ⟨by rw [HF.out]; rfl, HB3.out⟩
    have e2 : (p.d != q.d) = false := by simpa using h2
    have c1 := conv13 (r3.below (Below.refl wr.heap.size wr).drew) hpx
    have c2 := conv13 (s3.below (Below.refl wr.heap.size wr).drew) hqx
    have hb := bsA_eq hpx hqx
    generalize bsA p.x = s at *
    generalize bsA q.x = t at *
    obtain ⟨Bq, hBq⟩ : ∃ Bq, Bq = !decide (p.x = q.x) := ⟨_, rfl⟩
    have e3 : (s.toList == t.toList) = !Bq := by rw [hb, hBq, Bool.not_not]
    have HZ : Hid ((Bq = true → smL L M = false) ∧ (Bq = false → L.take (k + 1) = M.take (k + 1))) := by
      refine ⟨fun e => HD.out (fun e2 => ?_), fun e => HE.out ?_⟩
      · rw [hBq, e2] at e; simp at e
      · have h3 : p.x = q.x := by rw [hBq] at e; simpa using e
        exact keyP_inj (by unfold keyP; rw [h1, h2, h3])
    have HC : Hid (wr.drew.cell? ⟨b1, f1 + k * 3, none⟩ = some (.int .i64 p.k) ∧ wr.drew.cell? ⟨b1, f1 + k * 3 + 1, none⟩ = some (.int .i64 p.d) ∧ wr.drew.cell? ⟨b1, f1 + k * 3 + 2, none⟩ = some (.slice xo p.x.length xc) ∧ wr.drew.cell? ⟨b2, f2 + k * 3, none⟩ = some (.int .i64 q.k) ∧ wr.drew.cell? ⟨b2, f2 + k * 3 + 1, none⟩ = some (.int .i64 q.d) ∧ wr.drew.cell? ⟨b2, f2 + k * 3 + 2, none⟩ = some (.slice yo q.x.length yc) ∧ (convert 22 9 (.slice xo p.x.length xc)).run Try.prog wr.drew = .ok (.string s) wr.drew ∧ (convert 22 9 (.slice yo q.x.length yc)).run Try.prog wr.drew = .ok (.string t) wr.drew ∧ Bp21 wr.drew (.slice (some ⟨b1, f1, none⟩) L.length c) (.slice (some ⟨b2, f2, none⟩) M.length d) L M ∧ Below w.heap.size w wr.drew) := by
      have q := (Below.refl wr.heap.size wr).drew
      exact ⟨keepc q r0, keepc q r1, keepc q r2, keepc q s0, keepc q s1, keepc q s2, c1, c2, HW.out.1.below q, HW.out.2.drew⟩
    clear h1 h2 r3 s3 hpx hqx hb hBq HW r0 r1 r2 s0 s1 s2 c1 c2 HD HE
    go_wp2_with fail
    refine qw_region (C := fun X => X.cell? ⟨b1, f1 + k * 3, none⟩ = some (.int .i64 p.k) ∧ X.cell? ⟨b1, f1 + k * 3 + 1, none⟩ = some (.int .i64 p.d) ∧ X.cell? ⟨b1, f1 + k * 3 + 2, none⟩ = some (.slice xo p.x.length xc) ∧ X.cell? ⟨b2, f2 + k * 3, none⟩ = some (.int .i64 q.k) ∧ X.cell? ⟨b2, f2 + k * 3 + 1, none⟩ = some (.int .i64 q.d) ∧ X.cell? ⟨b2, f2 + k * 3 + 2, none⟩ = some (.slice yo q.x.length yc) ∧ (convert 22 9 (.slice xo p.x.length xc)).run Try.prog X = .ok (.string s) X ∧ (convert 22 9 (.slice yo q.x.length yc)).run Try.prog X = .ok (.string t) X ∧ Bp21 X (.slice (some ⟨b1, f1, none⟩) L.length c) (.slice (some ⟨b2, f2, none⟩) M.length d) L M ∧ Below w.heap.size w X) (by kernel_rfl) (by kernel_rfl) HC.out ?_
    refine qw_run (v := .slice (some ⟨b1, f1, none⟩) L.length c) (by rfl) ?_ ?_
    · (intro w9 hC; clear hC; go_simp; first | done | (simp; done) | (simp [*]; done) | omega | (simp; omega) | (rw [IntKind.wrap_i64]; omega) | (intro hx; omega) | rfl)
    simp only [Act.put, List.setIfInBounds_toArray, List.set_cons_zero, List.set_cons_succ]
    refine qw_run (v := .int .i64 (k : Int)) (by rfl) ?_ ?_
    · (intro w9 hC; clear hC; go_simp; first | done | (simp; done) | (simp [*]; done) | omega | (simp; omega) | (rw [IntKind.wrap_i64]; omega) | (intro hx; omega) | rfl)
    simp only [Act.put, List.setIfInBounds_toArray, List.set_cons_zero, List.set_cons_succ]
    refine qw_run (v := .pointer (some ⟨b1, f1 + k * 3, none⟩)) (by rfl) ?_ ?_
    · (intro w9 hC; clear hC; go_simp; first | done | (simp; done) | (simp [*]; done) | omega | (simp; omega) | (rw [IntKind.wrap_i64]; omega) | (intro hx; omega) | rfl)
    simp only [Act.put, List.setIfInBounds_toArray, List.set_cons_zero, List.set_cons_succ]
    refine qw_run (v := .pointer (some ⟨b1, f1 + k * 3, none⟩)) (by rfl) ?_ ?_
    · (intro w9 hC; clear hC; go_simp; first | done | (simp; done) | (simp [*]; done) | omega | (simp; omega) | (rw [IntKind.wrap_i64]; omega) | (intro hx; omega) | rfl)
    simp only [Act.put, List.setIfInBounds_toArray, List.set_cons_zero, List.set_cons_succ]
    refine qw_run (v := .int .i64 p.k) (by rfl) ?_ ?_
    · (intro w9 hC; obtain ⟨g0, g1, g2, h0, h1, h2, k1, k2, -⟩ := id hC; clear hC; go_simp; first | done | (simp; done) | (simp [*]; done) | omega | (simp; omega) | (rw [IntKind.wrap_i64]; omega) | (intro hx; omega) | rfl)
    simp only [Act.put, List.setIfInBounds_toArray, List.set_cons_zero, List.set_cons_succ]
    refine qw_run (v := .slice (some ⟨b2, f2, none⟩) M.length d) (by rfl) ?_ ?_
    · (intro w9 hC; clear hC; go_simp; first | done | (simp; done) | (simp [*]; done) | omega | (simp; omega) | (rw [IntKind.wrap_i64]; omega) | (intro hx; omega) | rfl)
    simp only [Act.put, List.setIfInBounds_toArray, List.set_cons_zero, List.set_cons_succ]
    refine qw_run (v := .int .i64 (k : Int)) (by rfl) ?_ ?_
    · (intro w9 hC; clear hC; go_simp; first | done | (simp; done) | (simp [*]; done) | omega | (simp; omega) | (rw [IntKind.wrap_i64]; omega) | (intro hx; omega) | rfl)
    simp only [Act.put, List.setIfInBounds_toArray, List.set_cons_zero, List.set_cons_succ]
    refine qw_run (v := .pointer (some ⟨b2, f2 + k * 3, none⟩)) (by rfl) ?_ ?_
    · (intro w9 hC; clear hC; go_simp; first | done | (simp; done) | (simp [*]; done) | omega | (simp; omega) | (rw [IntKind.wrap_i64]; omega) | (intro hx; omega) | rfl)
    simp only [Act.put, List.setIfInBounds_toArray, List.set_cons_zero, List.set_cons_succ]
    refine qw_run (v := .pointer (some ⟨b2, f2 + k * 3, none⟩)) (by rfl) ?_ ?_
    · (intro w9 hC; clear hC; go_simp; first | done | (simp; done) | (simp [*]; done) | omega | (simp; omega) | (rw [IntKind.wrap_i64]; omega) | (intro hx; omega) | rfl)
    simp only [Act.put, List.setIfInBounds_toArray, List.set_cons_zero, List.set_cons_succ]
    refine qw_run (v := .int .i64 q.k) (by rfl) ?_ ?_
    · (intro w9 hC; obtain ⟨g0, g1, g2, h0, h1, h2, k1, k2, -⟩ := id hC; clear hC; go_simp; first | done | (simp; done) | (simp [*]; done) | omega | (simp; omega) | (rw [IntKind.wrap_i64]; omega) | (intro hx; omega) | rfl)
    simp only [Act.put, List.setIfInBounds_toArray, List.set_cons_zero, List.set_cons_succ]
    refine qw_run (v := .bool false) (by rfl) ?_ ?_
    · (intro w9 hC; clear hC; go_simp; first | done | (simp; done) | (simp [*]; done) | omega | (simp; omega) | (rw [IntKind.wrap_i64]; omega) | (intro hx; omega) | rfl)
    simp only [Act.put, List.setIfInBounds_toArray, List.set_cons_zero, List.set_cons_succ]
    refine qw_run (v := .bool false) (by rfl) ?_ ?_
    · (intro w9 hC; clear hC; go_simp; first | done | (simp; done) | (simp [*]; done) | omega | (simp; omega) | (rw [IntKind.wrap_i64]; omega) | (intro hx; omega) | rfl)
    simp only [Act.put, List.setIfInBounds_toArray, List.set_cons_zero, List.set_cons_succ]
    refine qw_run (v := .slice (some ⟨b1, f1, none⟩) L.length c) (by rfl) ?_ ?_
    · (intro w9 hC; clear hC; go_simp; first | done | (simp; done) | (simp [*]; done) | omega | (simp; omega) | (rw [IntKind.wrap_i64]; omega) | (intro hx; omega) | rfl)
    simp only [Act.put, List.setIfInBounds_toArray, List.set_cons_zero, List.set_cons_succ]
    refine qw_run (v := .int .i64 (k : Int)) (by rfl) ?_ ?_
    · (intro w9 hC; clear hC; go_simp; first | done | (simp; done) | (simp [*]; done) | omega | (simp; omega) | (rw [IntKind.wrap_i64]; omega) | (intro hx; omega) | rfl)
    simp only [Act.put, List.setIfInBounds_toArray, List.set_cons_zero, List.set_cons_succ]
    refine qw_run (v := .pointer (some ⟨b1, f1 + k * 3, none⟩)) (by rfl) ?_ ?_
    · (intro w9 hC; clear hC; go_simp; first | done | (simp; done) | (simp [*]; done) | omega | (simp; omega) | (rw [IntKind.wrap_i64]; omega) | (intro hx; omega) | rfl)
    simp only [Act.put, List.setIfInBounds_toArray, List.set_cons_zero, List.set_cons_succ]
    refine qw_run (v := .pointer (some ⟨b1, f1 + k * 3 + 1, none⟩)) (by rfl) ?_ ?_
    · (intro w9 hC; clear hC; go_simp; first | done | (simp; done) | (simp [*]; done) | omega | (simp; omega) | (rw [IntKind.wrap_i64]; omega) | (intro hx; omega) | rfl)
    simp only [Act.put, List.setIfInBounds_toArray, List.set_cons_zero, List.set_cons_succ]
    refine qw_run (v := .int .i64 p.d) (by rfl) ?_ ?_
    · (intro w9 hC; obtain ⟨g0, g1, g2, h0, h1, h2, k1, k2, -⟩ := id hC; clear hC; go_simp; first | done | (simp; done) | (simp [*]; done) | omega | (simp; omega) | (rw [IntKind.wrap_i64]; omega) | (intro hx; omega) | rfl)
    simp only [Act.put, List.setIfInBounds_toArray, List.set_cons_zero, List.set_cons_succ]
    refine qw_run (v := .slice (some ⟨b2, f2, none⟩) M.length d) (by rfl) ?_ ?_
    · (intro w9 hC; clear hC; go_simp; first | done | (simp; done) | (simp [*]; done) | omega | (simp; omega) | (rw [IntKind.wrap_i64]; omega) | (intro hx; omega) | rfl)
    simp only [Act.put, List.setIfInBounds_toArray, List.set_cons_zero, List.set_cons_succ]
    refine qw_run (v := .int .i64 (k : Int)) (by rfl) ?_ ?_
    · (intro w9 hC; clear hC; go_simp; first | done | (simp; done) | (simp [*]; done) | omega | (simp; omega) | (rw [IntKind.wrap_i64]; omega) | (intro hx; omega) | rfl)
    simp only [Act.put, List.setIfInBounds_toArray, List.set_cons_zero, List.set_cons_succ]
    refine qw_run (v := .pointer (some ⟨b2, f2 + k * 3, none⟩)) (by rfl) ?_ ?_
    · (intro w9 hC; clear hC; go_simp; first | done | (simp; done) | (simp [*]; done) | omega | (simp; omega) | (rw [IntKind.wrap_i64]; omega) | (intro hx; omega) | rfl)
    simp only [Act.put, List.setIfInBounds_toArray, List.set_cons_zero, List.set_cons_succ]
    refine qw_run (v := .pointer (some ⟨b2, f2 + k * 3 + 1, none⟩)) (by rfl) ?_ ?_
    · (intro w9 hC; clear hC; go_simp; first | done | (simp; done) | (simp [*]; done) | omega | (simp; omega) | (rw [IntKind.wrap_i64]; omega) | (intro hx; omega) | rfl)
    simp only [Act.put, List.setIfInBounds_toArray, List.set_cons_zero, List.set_cons_succ]
    refine qw_run (v := .int .i64 q.d) (by rfl) ?_ ?_
    · (intro w9 hC; obtain ⟨g0, g1, g2, h0, h1, h2, k1, k2, -⟩ := id hC; clear hC; go_simp; first | done | (simp; done) | (simp [*]; done) | omega | (simp; omega) | (rw [IntKind.wrap_i64]; omega) | (intro hx; omega) | rfl)
    simp only [Act.put, List.setIfInBounds_toArray, List.set_cons_zero, List.set_cons_succ]
    refine qw_run (v := .bool false) (by rfl) ?_ ?_
    · (intro w9 hC; clear hC; go_simp; first | done | (simp; done) | (simp [*]; done) | omega | (simp; omega) | (rw [IntKind.wrap_i64]; omega) | (intro hx; omega) | rfl)
    simp only [Act.put, List.setIfInBounds_toArray, List.set_cons_zero, List.set_cons_succ]
    refine qw_run (v := .bool false) (by rfl) ?_ ?_
    · (intro w9 hC; clear hC; go_simp; first | done | (simp; done) | (simp [*]; done) | omega | (simp; omega) | (rw [IntKind.wrap_i64]; omega) | (intro hx; omega) | rfl)
    simp only [Act.put, List.setIfInBounds_toArray, List.set_cons_zero, List.set_cons_succ]
    refine qw_run (v := .bool false) (by rfl) ?_ ?_
    · (intro w9 hC; clear hC; go_simp; first | done | (simp; done) | (simp [*]; done) | omega | (simp; omega) | (rw [IntKind.wrap_i64]; omega) | (intro hx; omega) | rfl)
    simp only [Act.put, List.setIfInBounds_toArray, List.set_cons_zero, List.set_cons_succ]
    refine qw_run (v := .slice (some ⟨b1, f1, none⟩) L.length c) (by rfl) ?_ ?_
    · (intro w9 hC; clear hC; go_simp; first | done | (simp; done) | (simp [*]; done) | omega | (simp; omega) | (rw [IntKind.wrap_i64]; omega) | (intro hx; omega) | rfl)
    simp only [Act.put, List.setIfInBounds_toArray, List.set_cons_zero, List.set_cons_succ]
    refine qw_run (v := .int .i64 (k : Int)) (by rfl) ?_ ?_
    · (intro w9 hC; clear hC; go_simp; first | done | (simp; done) | (simp [*]; done) | omega | (simp; omega) | (rw [IntKind.wrap_i64]; omega) | (intro hx; omega) | rfl)
    simp only [Act.put, List.setIfInBounds_toArray, List.set_cons_zero, List.set_cons_succ]
    refine qw_run (v := .pointer (some ⟨b1, f1 + k * 3, none⟩)) (by rfl) ?_ ?_
    · (intro w9 hC; clear hC; go_simp; first | done | (simp; done) | (simp [*]; done) | omega | (simp; omega) | (rw [IntKind.wrap_i64]; omega) | (intro hx; omega) | rfl)
    simp only [Act.put, List.setIfInBounds_toArray, List.set_cons_zero, List.set_cons_succ]
    refine qw_run (v := .pointer (some ⟨b1, f1 + k * 3 + 2, none⟩)) (by rfl) ?_ ?_
    · (intro w9 hC; clear hC; go_simp; first | done | (simp; done) | (simp [*]; done) | omega | (simp; omega) | (rw [IntKind.wrap_i64]; omega) | (intro hx; omega) | rfl)
    simp only [Act.put, List.setIfInBounds_toArray, List.set_cons_zero, List.set_cons_succ]
    refine qw_run (v := .slice xo p.x.length xc) (by rfl) ?_ ?_
    · (intro w9 hC; obtain ⟨g0, g1, g2, h0, h1, h2, k1, k2, -⟩ := id hC; clear hC; go_simp; first | done | (simp; done) | (simp [*]; done) | omega | (simp; omega) | (rw [IntKind.wrap_i64]; omega) | (intro hx; omega) | rfl)
    simp only [Act.put, List.setIfInBounds_toArray, List.set_cons_zero, List.set_cons_succ]
    refine qw_run (v := .string s) (by rfl) ?_ ?_
    · (intro w9 hC; obtain ⟨g0, g1, g2, h0, h1, h2, k1, k2, -⟩ := id hC; clear hC; go_simp; first | done | (simp; done) | (simp [*]; done) | omega | (simp; omega) | (rw [IntKind.wrap_i64]; omega) | (intro hx; omega) | rfl)
    simp only [Act.put, List.setIfInBounds_toArray, List.set_cons_zero, List.set_cons_succ]
    refine qw_run (v := .slice (some ⟨b2, f2, none⟩) M.length d) (by rfl) ?_ ?_
    · (intro w9 hC; clear hC; go_simp; first | done | (simp; done) | (simp [*]; done) | omega | (simp; omega) | (rw [IntKind.wrap_i64]; omega) | (intro hx; omega) | rfl)
    simp only [Act.put, List.setIfInBounds_toArray, List.set_cons_zero, List.set_cons_succ]
    refine qw_run (v := .int .i64 (k : Int)) (by rfl) ?_ ?_
    · (intro w9 hC; clear hC; go_simp; first | done | (simp; done) | (simp [*]; done) | omega | (simp; omega) | (rw [IntKind.wrap_i64]; omega) | (intro hx; omega) | rfl)
    simp only [Act.put, List.setIfInBounds_toArray, List.set_cons_zero, List.set_cons_succ]
    refine qw_run (v := .pointer (some ⟨b2, f2 + k * 3, none⟩)) (by rfl) ?_ ?_
    · (intro w9 hC; clear hC; go_simp; first | done | (simp; done) | (simp [*]; done) | omega | (simp; omega) | (rw [IntKind.wrap_i64]; omega) | (intro hx; omega) | rfl)
    simp only [Act.put, List.setIfInBounds_toArray, List.set_cons_zero, List.set_cons_succ]
    refine qw_run (v := .pointer (some ⟨b2, f2 + k * 3 + 2, none⟩)) (by rfl) ?_ ?_
    · (intro w9 hC; clear hC; go_simp; first | done | (simp; done) | (simp [*]; done) | omega | (simp; omega) | (rw [IntKind.wrap_i64]; omega) | (intro hx; omega) | rfl)
    simp only [Act.put, List.setIfInBounds_toArray, List.set_cons_zero, List.set_cons_succ]
    refine qw_run (v := .slice yo q.x.length yc) (by rfl) ?_ ?_
    · (intro w9 hC; obtain ⟨g0, g1, g2, h0, h1, h2, k1, k2, -⟩ := id hC; clear hC; go_simp; first | done | (simp; done) | (simp [*]; done) | omega | (simp; omega) | (rw [IntKind.wrap_i64]; omega) | (intro hx; omega) | rfl)
    simp only [Act.put, List.setIfInBounds_toArray, List.set_cons_zero, List.set_cons_succ]
    refine qw_run (v := .string t) (by rfl) ?_ ?_
    · (intro w9 hC; obtain ⟨g0, g1, g2, h0, h1, h2, k1, k2, -⟩ := id hC; clear hC; go_simp; first | done | (simp; done) | (simp [*]; done) | omega | (simp; omega) | (rw [IntKind.wrap_i64]; omega) | (intro hx; omega) | rfl)
    simp only [Act.put, List.setIfInBounds_toArray, List.set_cons_zero, List.set_cons_succ]
    refine qw_run (v := .bool Bq) (by rfl) ?_ ?_
    · (intro w9 hC; clear hC; go_simp; first | done | (simp; done) | (simp [*]; done) | omega | (simp; omega) | (rw [IntKind.wrap_i64]; omega) | (intro hx; omega) | rfl)
    simp only [Act.put, List.setIfInBounds_toArray, List.set_cons_zero, List.set_cons_succ]
    refine qw_run (v := .bool Bq) (by rfl) ?_ ?_
    · (intro w9 hC; clear hC; go_simp; first | done | (simp; done) | (simp [*]; done) | omega | (simp; omega) | (rw [IntKind.wrap_i64]; omega) | (intro hx; omega) | rfl)
    simp only [Act.put, List.setIfInBounds_toArray, List.set_cons_zero, List.set_cons_succ]
    refine qw_nil ?_
    intro W3 hW3
    have HW3 : Hid (Bp21 W3 (.slice (some ⟨b1, f1, none⟩) L.length c) (.slice (some ⟨b2, f2, none⟩) M.length d) L M ∧ Below w.heap.size w W3) := hW3.2.2.2.2.2.2.2.2
    clear hW3 HC
    cases Bq with
    | true =>
      have HF : Hid (smL L M = false) := HZ.out.1 rfl
      go_wp2
      go_ret
      exact ⟨by rw [HF.out]; rfl, HW3.out.2⟩
    | false =>
      have HP2 : Hid (L.take (k + 1) = M.take (k + 1)) := HZ.out.2 rfl
      clear HZ
      go_wp2
      go_roundg (gk - 1)
      case measure => have := HK.out; omega
      case rel => exact ⟨k + 1, by have := HK.out; omega, rfl, HW3, HP2⟩
end Go.Proofs.Ytiachojhnbicaab
