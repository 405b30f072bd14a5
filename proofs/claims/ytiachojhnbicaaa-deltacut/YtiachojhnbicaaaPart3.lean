/-
  Part 3 of the proof: 5 texts, one behind the other.
-/
import Derived.Test.YtiachojhnbicaaaPart2
import Derived.Deep.Slices
import Derived.Laws.OwnMore
import Derived.Test.YtiachojhnbicaaaPart1
import Derived.Lib.SmallJoins
namespace Go.Proofs.Ytiachojhnbicaaa
open Go.RowKit Go.Shelf
set_option linter.unusedSimpArgs false
set_option linter.unusedVariables false

set_option maxRecDepth 20000 in
set_option maxHeartbeats 2000000 in
theorem equal21 (v u : Value) (a b : List Nat) (w : World) (hv : RwX cB w v a) (hu : RwX cB w u b) (hx : ∀ z ∈ a, z < 256) (hy : ∀ z ∈ b, z < 256) :
    Calls Try.prog 11 #[v, u] w fun e w' => e = .returned (.bool (decide (a = b))) ∧ Below w.heap.size w w' := by
  have c1 := conv13 hv hx
  have c2 := conv13 hu hy
  have hb := bsA_eq hx hy
  obtain ⟨ao, c, hvf, -⟩ := id hv
  obtain ⟨bo, d, huf, -⟩ := id hu
  subst hvf huf
  generalize bsA a = s at *
  generalize bsA b = t at *
  obtain ⟨q, hq⟩ : ∃ q, q = decide (a = b) := ⟨_, rfl⟩
  rw [← hq] at hb ⊢
  clear hq hv hu hx hy
  go_enter Try.func11, Try.ntmps11
  go_wp2
  go_ret
  exact ⟨by first | rfl | (rw [← hb]; rfl), Below.refl _ _⟩
set_option maxRecDepth 20000 in
set_option maxHeartbeats 2000000 in
theorem clone21 (v : Value) (l : List Nat) (w : World) (hA : RowA w 1 v l.length (l.map cB)) (hl : l.length ≤ 140737480000000) :
    Calls Try.prog 14 #[v] w fun e w' => ∃ v', e = .returned v' ∧ w'.ownsRow w.heap.size 5 1 v' l.length (l.map cB) ∧ Below w.heap.size w w' := by
  obtain ⟨i0, hi, hz0, hz1, hz2⟩ := info13 Try.infoB13
  obtain ⟨-, ao, c, hvf, -⟩ := id hA
  subst hvf
  have hq : ∀ (w : World) (a : Option Addr) (n c n' c' : Nat), (binOp .eql 22 (.slice a n c) (.slice none n' c')).run Try.prog w = .ok (.bool a.isNone) w := fun w a n c n' c' => Lib.run_eql_slice_nil w 22 5 a n c n' c' Try.underlying22
  have q3 := bl1 w (.cells #[] 5)
  have HR3 := hid13 (hA.below q3)
  have HO3 : Hid ((w.alloc (.cells #[] 5)).ownsRow w.heap.size 5 1 (.slice (some ⟨w.heap.size, 0, none⟩) 0 0) 0 []) := World.ownsRow_made w #[] 0 (Nat.le_refl _) (by unfold maxLen; omega) (by simp)
  have HQ := hid13 q3
  cases ao with
  | none =>
    have hl0 : l = [] := by
      obtain ⟨-, ao', c', e, -, h⟩ := hA
      injection e with e1 e2 e3
      subst e1
      rcases h with ⟨-, -, h⟩ | ⟨b, h, -⟩
      · simpa using h
      · cases h
    subst hl0
    clear hA q3 HR3 HO3 HQ
    go_enter Try.func14, Try.ntmps14
    go_wp2
    go_ret
    exact ⟨_, rfl, World.ownsRow_nil _ _ _ _, Below.refl _ _⟩
  | some ad =>
    clear hA
    go_enter Try.func14, Try.ntmps14
    go_wp2_with (at_builtin; apply stopHere9)
    refine (show wpList _ _ _ _ _ _ from ?_)
    refine wpList_append_rowA rfl _ _ 22 rfl w.heap.size 5 i0 (.int .u8 0) 1 1 Try.underlying22 hi hz0 hz1 hz2 rfl (by decide) _ 0 [] rfl HO3.out _ l.length (l.map cB) rfl HR3.out (cB_one l) (by unfold maxLen; omega) (by omega) q3.size ?_
    intro ao4 c4 w4 hO4 hg4
    rw [Nat.zero_add, List.nil_append] at hO4
    rw [Nat.zero_add]
    have HB4 : Hid (Below w.heap.size w w4) := hid13 (HQ.out.grown hg4 HQ.out.size (fun z hz => (HO3.out.lt z hz).1))
    have HO4 := hid13 hO4
    clear hO4 hg4 q3 HR3 HO3 HQ
    go_wp2
    go_ret
    exact ⟨_, rfl, HO4.out, HB4.out⟩
theorem rowA_mid21 {W : World} {ao : Option Addr} {n c k z : Nat} {l : List Nat} (h : RowA W 1 (.slice ao n c) n (l.map cB)) (hk : k + z ≤ n) : RowA W 1 (.slice (if c = k then ao else ao.map (·.add (k * 1))) z (c - k)) z (((l.drop k).take z).map cB) := by
  obtain ⟨hl, ao', c', e, hc, h⟩ := h
  injection e with e1 e2 e3
  subst e1 e3
  rw [List.length_map, Nat.mul_one] at hl
  refine ⟨by rw [List.length_map, List.length_take, List.length_drop]; omega, _, _, rfl, by omega, ?_⟩
  rcases h with ⟨rfl, rfl, rfl⟩ | ⟨a, rfl, h⟩
  · left
    exact ⟨by split <;> rfl, by omega, by omega⟩
  · right
    by_cases hck : c = k
    · subst hck
      refine ⟨a, by simp, fun j u hj => ?_⟩
      have hj' := (List.getElem?_eq_some_iff.1 hj).1
      rw [List.length_map, List.length_take, List.length_drop] at hj'
      omega
    · refine ⟨a.add (k * 1), by rw [if_neg hck]; rfl, fun j u hj => ?_⟩
      have hj' := (List.getElem?_eq_some_iff.1 hj).1
      rw [List.length_map, List.length_take, List.length_drop] at hj'
      rw [List.getElem?_map, List.getElem?_take_of_lt (by omega), List.getElem?_drop, ← List.getElem?_map] at hj
      have := h (k + j) u hj
      rw [Deep.add_add, Nat.mul_one]
      exact this
def DfO (base : Nat) (W : World) (v : Value) (a b : List Nat) : Prop :=
  if a = b then v = .slice none 0 0 else ∃ z vx, v = .slice (some ⟨z, 0, none⟩) 1 1 ∧ W.ownsRow base 32 3 v 1 [.int .i64 (dfP a b).k, .int .i64 (dfP a b).d, vx] ∧ W.ownsRow base 5 1 vx (dfP a b).x.length ((dfP a b).x.map cB) ∧ vx.ownBlock ≠ some z
set_option maxRecDepth 20000 in
set_option maxHeartbeats 4000000 in
theorem diff21 (v u : Value) (a b : List Nat) (w : World) (hv : RwX cB w v a) (hu : RwX cB w u b) (hA : RowA w 1 v a.length (a.map cB)) (hB : RowA w 1 u b.length (b.map cB)) (hx : ∀ z ∈ a, z < 256) (hy : ∀ z ∈ b, z < 256) (hl : a.length ≤ 140737480000000) (hl2 : b.length ≤ 140737480000000) :
    Calls Try.prog 6 #[v, u] w fun e w' => ∃ v', e = .returned v' ∧ DfO w.heap.size w' v' a b ∧ Below w.heap.size w w' := by
  obtain ⟨i0, hi, hz0, hz1, hz2⟩ := info13 Try.infoB13
  have K1 := equal21 v u a b w hv hu hx hy
  obtain ⟨ao, c, hvf, hc, -⟩ := id hv
  obtain ⟨bo, d, huf, hd, -⟩ := id hu
  subst hvf huf
  by_cases hab : a = b
  · have HD : Hid (∀ w', DfO w.heap.size w' (.slice none 0 0) a b) := by
      intro w'
      unfold DfO
      rw [if_pos hab]
    rw [decide_eq_true hab] at K1
    clear hv hu hA hB hx hy hl hl2 hab hi hz0 hz1 hz2 hc hd
    go_enter Try.func6, Try.ntmps6
    go_wp2_with fail
    refine K1.mono ?_
    rintro e w1 ⟨rfl, hb⟩
    have HB1 := hid13 hb
    clear hb K1
    go_wp2
    go_ret
    exact ⟨_, rfl, HD.out _, HB1.out⟩
  · rw [decide_eq_false hab] at K1
    have HD : Hid (∀ w' v', (∃ z vx, v' = .slice (some ⟨z, 0, none⟩) 1 1 ∧ w'.ownsRow w.heap.size 32 3 v' 1 [.int .i64 (dfP a b).k, .int .i64 (dfP a b).d, vx] ∧ w'.ownsRow w.heap.size 5 1 vx (dfP a b).x.length ((dfP a b).x.map cB) ∧ vx.ownBlock ≠ some z) → DfO w.heap.size w' v' a b) := by
      intro w' v' h
      unfold DfO
      rw [if_neg hab]
      exact h
    have hle := df_le a b
    have hXl := dfX_len a b
    obtain ⟨K, hK⟩ : ∃ K, K = dfK a b := ⟨_, rfl⟩
    obtain ⟨T, hT⟩ : ∃ T, T = dfT a b := ⟨_, rfl⟩
    have eP : dfP a b = ⟨(K : Int), (a.length : Int) - K - T, (b.drop K).take (b.length - K - T)⟩ := by unfold dfP dfX; rw [← hK, ← hT]
    rw [← hK, ← hT] at hle hXl
    have HV : Hid (RwX cB w (.slice ao a.length c) a ∧ RwX cB w (.slice bo b.length d) b ∧ RowA w 1 (.slice bo b.length d) b.length (b.map cB)) := ⟨hv, hu, hB⟩
    have HL : Hid (a.length ≤ 140737480000000 ∧ b.length ≤ 140737480000000 ∧ K + T ≤ a.length ∧ K + T ≤ b.length) := ⟨hl, hl2, hle.1, hle.2⟩
    have HKT : Hid (cpN a b = K ∧ csN (a.drop K) (b.drop K) = T) := ⟨hK.symm, by rw [hT, hK]; rfl⟩
    have kn : (K : Int) ≤ (a.length : Int) := by omega
    obtain ⟨avo, hav⟩ : ∃ x : Option Addr, x = (if c = K then ao else ao.map (·.add (K * 1))) := ⟨_, rfl⟩
    obtain ⟨bvo, hbv⟩ : ∃ x : Option Addr, x = (if d = K then bo else bo.map (·.add (K * 1))) := ⟨_, rfl⟩
    have s1 : ∀ X, Sem.run Try.prog (Instr.sliceAt 22 (.slice ao a.length c) (some (.int .i64 (K : Int))) none none) X = .ok (.slice avo (a.length - K) (c - K)) X := fun X => by
      rw [hav]; exact run_slice_from (P := Try.prog) (w := X) Try.underlying22 hi hz1 ao a.length c K (by omega)
    have s2 : ∀ X, Sem.run Try.prog (Instr.sliceAt 22 (.slice bo b.length d) (some (.int .i64 (K : Int))) none none) X = .ok (.slice bvo (b.length - K) (d - K)) X := fun X => by
      rw [hbv]; exact run_slice_from (P := Try.prog) (w := X) Try.underlying22 hi hz1 bo b.length d K (by omega)
    have s3 : ∀ X, Sem.run Try.prog (Instr.sliceAt 22 (.slice bvo (b.length - K) (d - K)) none (some (.int .i64 ((b.length - K - T : Nat) : Int))) none) X = .ok (.slice bvo (b.length - K - T) (d - K)) X := fun X => run_slice_to (P := Try.prog) (w := X) Try.underlying22 hi bvo (b.length - K) (d - K) (b.length - K - T) (by omega)
    have HSl : Hid (∀ W, RwX cB W (.slice ao a.length c) a → RwX cB W (.slice bo b.length d) b → RwX cB W (.slice avo (a.length - K) (c - K)) (a.drop K) ∧ RwX cB W (.slice bvo (b.length - K) (d - K)) (b.drop K)) := by
      intro W h1 h2
      rw [hav, hbv]
      exact ⟨rwx_from h1 (by omega), rwx_from h2 (by omega)⟩
    have HSm : Hid (∀ W, RowA W 1 (.slice bo b.length d) b.length (b.map cB) → RowA W 1 (.slice bvo (b.length - K - T) (d - K)) (b.length - K - T) (((b.drop K).take (b.length - K - T)).map cB)) := by
      intro W h
      rw [hbv]
      exact rowA_mid21 h (by omega)
    have wa : IntKind.i64.wrap (((a.length - K : Nat) : Int) - (T : Int)) = (a.length : Int) - K - T := by rw [IntKind.wrap_i64]; omega
    have wb : IntKind.i64.wrap (((b.length - K : Nat) : Int) - (T : Int)) = ((b.length - K - T : Nat) : Int) := by rw [IntKind.wrap_i64]; omega
    rw [eP] at HD
    clear hv hu hA hB hx hy hl hl2 hab hK hT eP hle hXl hav hbv
    go_enter Try.func6, Try.ntmps6
    go_wp2_with fail
    refine K1.mono ?_
    rintro e w1 ⟨rfl, hb⟩
    have HB1 := hid13 hb
    clear hb K1
    go_wp2_with fail
    refine (first21 _ _ a b w1 (HV.out.1.below HB1.out) (HV.out.2.1.below HB1.out) (by have := HL.out; omega)).mono ?_
    rintro e w2 ⟨rfl, hb⟩
    have HB2 : Hid (Below w.heap.size w w2) := hid13 (keepb hb HB1.out)
    rw [HKT.out.1]
    clear hb HB1
    go_wp2
    go_quiet (fail)
    have HB3 : Hid (Below w.heap.size w (w2.drewN nq)) := below_drewN HB2.out nq
    clear HB2 s1 s2
    go_wp2_with fail
    obtain ⟨g1, g2⟩ := HSl.out _ (HV.out.1.below HB3.out) (HV.out.2.1.below HB3.out)
    refine (last21 _ _ (a.drop K) (b.drop K) _ g1 g2 (by rw [List.length_drop]; have := HL.out; omega) (by rw [List.length_drop]; have := HL.out; omega)).mono ?_
    rintro e w3 ⟨rfl, hb⟩
    have HB4 : Hid (Below w.heap.size w w3) := hid13 (keepb hb HB3.out)
    rw [HKT.out.2]
    clear hb HB3 g1 g2
    go_wp2_with fail
    have g3 := HSm.out _ (HV.out.2.2.below HB4.out)
    have hXl : ((b.drop K).take (b.length - K - T)).length = b.length - K - T := by rw [List.length_take, List.length_drop]; omega
    rw [← hXl] at g3 ⊢
    refine (clone21 _ _ _ (by rw [hXl] at g3 ⊢; exact g3) (by rw [hXl]; have := HL.out; omega)).mono ?_
    rintro e w4 ⟨vx, rfl, ho, hb⟩
    have HB5 : Hid (Below w.heap.size w w4) := hid13 (keepb hb HB4.out)
    have HO5 := hid13 (own_base16 ho HB4.out.size)
    obtain ⟨xo, xc, hvx⟩ := own_form ho
    subst hvx
    clear hb ho g3 s3
    have q6 := bl1 w4 (.cells #[.int .i64 (K : Int), .int .i64 ((a.length : Int) - K - T), .slice xo ((b.drop K).take (b.length - K - T)).length xc] 32)
    have HB6 : Hid (Below w.heap.size w _) := hid13 (keepb q6 HB5.out)
    have HO6 := hid13 (own_b13 q6 HO5.out)
    have HO7 : Hid ((w4.alloc (.cells #[.int .i64 (K : Int), .int .i64 ((a.length : Int) - K - T), .slice xo ((b.drop K).take (b.length - K - T)).length xc] 32)).ownsRow w.heap.size 32 3 (.slice (some ⟨w4.heap.size, 0, none⟩) 1 1) 1 [.int .i64 (K : Int), .int .i64 ((a.length : Int) - K - T), .slice xo ((b.drop K).take (b.length - K - T)).length xc]) := World.ownsRow_lit (base := w.heap.size) (e := 32) (size := 3) w4 _ 1 HB5.out.size (by unfold maxLen; omega) rfl
    have HN : Hid ((Value.slice xo ((b.drop K).take (b.length - K - T)).length xc).ownBlock ≠ some w4.heap.size) := by
      intro e
      have := (HO5.out.lt _ e).2
      omega
    rw [hXl] at HO6 HO7 HN q6 HB6
    clear q6 HO5 HB5
    go_wp2
    go_ret
    exact ⟨_, rfl, HD.out _ _ ⟨_, _, rfl, HO7.out, by rw [hXl]; exact HO6.out, HN.out⟩, HB6.out⟩
end Go.Proofs.Ytiachojhnbicaaa
namespace Go.Proofs.Ytiachojhnbicaaa
open Go.RowKit
set_option linter.unusedSimpArgs false
set_option linter.unusedVariables false

def TwI (W : World) (B : Nat) (i j : Ins) (v u : Value) : Prop := AtI W B i.op i.n v ∧ AtI W (B + 1) j.op j.n u ∧ RwX cU W v i.m ∧ RwX cU W u j.m
theorem TwI.below {W W' : World} {B : Nat} {i j : Ins} {v u : Value} (h : TwI W B i j v u) (hb : Below W.heap.size W W') : TwI W' B i j v u := ⟨h.1.below hb, h.2.1.below hb, h.2.2.1.below hb, h.2.2.2.below hb⟩
def wth (a n : Int) : Int := if a.tmod n < 0 then a.tmod n + n else a.tmod n
theorem wth_in (a n : Int) (hn : 0 < n) : 0 ≤ wth a n ∧ wth a n < n := by
  unfold wth
  have h1 := Int.tmod_lt_of_pos a hn
  have h2 := Int.lt_tmod_of_pos a hn
  split <;> constructor <;> omega
end Go.Proofs.Ytiachojhnbicaaa
namespace Go.Proofs.Ytiachojhnbicaaa
open Go.RowKit Go.Shelf
set_option linter.unusedSimpArgs false
set_option linter.unusedVariables false

def PtR21 (w : World) (v : Value) (L : List Pt) : Prop := ∃ ao c, v = .slice ao L.length c ∧ L.length ≤ c ∧ (L = [] ∨ ∃ b off, ao = some ⟨b, off, none⟩ ∧ ∀ j p, L[j]? = some p → ∃ vx, w.cell? ⟨b, off + j * 3, none⟩ = some (.int .i64 p.k) ∧ w.cell? ⟨b, off + j * 3 + 1, none⟩ = some (.int .i64 p.d) ∧ w.cell? ⟨b, off + j * 3 + 2, none⟩ = some vx ∧ RwX cB w vx p.x ∧ RowA w 1 vx p.x.length (p.x.map cB))
theorem PtR21.below {w w' : World} {v : Value} {L : List Pt} (h : PtR21 w v L) (hb : Below w.heap.size w w') : PtR21 w' v L := by
  obtain ⟨ao, c, e, hc, h⟩ := h
  refine ⟨ao, c, e, hc, h.imp id ?_⟩
  rintro ⟨b, off, e, h⟩
  refine ⟨b, off, e, fun j p hj => ?_⟩
  obtain ⟨vx, h1, h2, h3, h4, h5⟩ := h j p hj
  exact ⟨vx, keepc hb h1, keepc hb h2, keepc hb h3, h4.below hb, h5.below hb⟩
theorem ptr_at {w : World} {ao : Option Addr} {n c : Nat} {L : List Pt} (h : PtR21 w (.slice ao n c) L) {j : Nat} {p : Pt} (hj : L[j]? = some p) : ∃ b off xo xc, ao = some ⟨b, off, none⟩ ∧ w.cell? ⟨b, off + j * 3, none⟩ = some (.int .i64 p.k) ∧ w.cell? ⟨b, off + j * 3 + 1, none⟩ = some (.int .i64 p.d) ∧ w.cell? ⟨b, off + j * 3 + 2, none⟩ = some (.slice xo p.x.length xc) ∧ RwX cB w (.slice xo p.x.length xc) p.x ∧ RowA w 1 (.slice xo p.x.length xc) p.x.length (p.x.map cB) := by
  obtain ⟨ao', c', e, hc, h⟩ := h
  injection e with e1 e2 e3
  subst e1
  rcases h with h | ⟨b, off, e2, h⟩
  · rw [h] at hj; cases hj
  · obtain ⟨vx, h1, h2, h3, h4, h5⟩ := h j p hj
    obtain ⟨xo, xc, hx, -⟩ := id h4
    subst hx
    exact ⟨b, off, xo, xc, e2, h1, h2, h3, h4, h5⟩
theorem dfo_ptr {base : Nat} {W : World} {v : Value} {a b : List Nat} (h : DfO base W v a b) : PtR21 W v (dfL a b) := by
  unfold DfO at h
  unfold dfL
  by_cases hab : a = b
  · rw [if_pos hab] at h ⊢
    exact ⟨none, 0, h, Nat.le_refl _, .inl rfl⟩
  · rw [if_neg hab] at h ⊢
    obtain ⟨z, vx, rfl, h1, h2, -⟩ := h
    refine ⟨_, 1, rfl, Nat.le_refl _, .inr ⟨z, 0, rfl, fun j p hj => ?_⟩⟩
    have hj0 : j = 0 := by have := (List.getElem?_eq_some_iff.1 hj).1; simpa using this
    subst hj0
    simp only [List.getElem?_cons_zero, Option.some.injEq] at hj
    subst hj
    refine ⟨vx, ?_, ?_, ?_, own_rwx h2, own_rowA h2⟩
    · exact (h1.cellAt 0 (by decide)).trans rfl
    · exact (h1.cellAt 1 (by decide)).trans rfl
    · exact (h1.cellAt 2 (by decide)).trans rfl
def wt21 (L : List Pt) : Nat := (L.map fun p => p.x.length).sum
theorem wt21_take {L : List Pt} {k : Nat} {p : Pt} (h : L[k]? = some p) : wt21 (L.take (k + 1)) = wt21 (L.take k) + p.x.length := by
  unfold wt21
  rw [List.take_add_one, h]
  simp
theorem wt21_le {L : List Pt} (k : Nat) : wt21 (L.take k) ≤ wt21 L := by
  unfold wt21
  conv => rhs; rw [← List.take_append_drop k L]
  rw [List.map_append, List.sum_append]
  omega
set_option maxRecDepth 20000 in
set_option maxHeartbeats 4000000 in
theorem weight21 (v : Value) (L : List Pt) (w : World) (hv : PtR21 w v L) (hl : L.length ≤ 140737488355328) (hw : wt21 L ≤ 1000000000000000000) :
    Calls Try.prog 10 #[v] w fun e w' => e = .returned (.int .i64 ((wt21 L : Nat) : Int)) ∧ Below w.heap.size w w' := by
  obtain ⟨ao, c, hvf, -⟩ := id hv
  subst hvf
  have HT := hid13 hv
  have HB : Hid (Below w.heap.size w w) := Below.refl _ _
  have HL : Hid (L.length ≤ 140737488355328 ∧ wt21 L ≤ 1000000000000000000) := ⟨hl, hw⟩
  clear hv hl hw
  go_enter Try.func10, Try.ntmps10
  go_wp2
  go_loopg [3, 8] L.length (fun g s x wr => ∃ (k : Nat), k + g = L.length ∧ s = .int .i64 ((wt21 (L.take k) : Nat) : Int) ∧ x = .int .i64 (k : Int) ∧ Hid (PtR21 wr (.slice ao L.length c) L ∧ Below w.heap.size w wr))
  case atStart => exact ⟨0, by omega, rfl, rfl, ⟨HT.out, HB.out⟩⟩
  case round =>
    clear HT HB
    obtain ⟨k, hk, rfl, rfl, HW⟩ := hrel
    by_cases hlt : k < L.length
    · have l1 : (k : Int) < (L.length : Int) := by omega
      obtain ⟨p, hp⟩ : ∃ p, L[k]? = some p := ⟨L[k], by simp [hlt]⟩
      obtain ⟨b1, f1, xo, xc, hao, r0, r1, r2, -, -⟩ := ptr_at HW.out.1 hp
      subst hao
      obtain ⟨S, hS⟩ : ∃ S, S = wt21 (L.take k) := ⟨_, rfl⟩
      have hS1 := wt21_take hp
      have hS2 := wt21_le (L := L) (k + 1)
      rw [← hS] at hS1 ⊢
      have wk : IntKind.i64.wrap ((k : Int) + 1) = (k : Int) + 1 := by rw [IntKind.wrap_i64]; have := HL.out; omega
      have ws : IntKind.i64.wrap ((S : Int) + (p.x.length : Int)) = (S : Int) + (p.x.length : Int) := by rw [IntKind.wrap_i64]; have := HL.out; omega
      have HX : Hid (k < L.length ∧ k + gk = L.length ∧ ((wt21 (L.take (k + 1)) : Nat) : Int) = (S : Int) + (p.x.length : Int)) := ⟨hlt, hk, by rw [hS1]; push_cast; rfl⟩
      have q1 := bl1 wr (.cells #[.int .i64 p.k, .int .i64 p.d, .slice xo p.x.length xc] 32)
      have HW2 : Hid (PtR21 _ (.slice (some ⟨b1, f1, none⟩) L.length c) L ∧ Below w.heap.size w _) := ⟨HW.out.1.below q1, keepb q1 HW.out.2⟩
      clear hS hS1 hS2 hp hlt hk HW q1
      go_wp2
      go_roundg (gk - 1)
      case measure => have := HX.out; omega
      case rel => exact ⟨k + 1, by have := HX.out; omega, by rw [HX.out.2.2], rfl, HW2⟩
    · have l1 : ¬ (k : Int) < (L.length : Int) := by omega
      have HE : Hid (wt21 (L.take k) = wt21 L) := by show _ = _; rw [List.take_of_length_le (by omega)]
      clear hlt hk
      go_wp2
      go_ret
      exact ⟨by rw [HE.out]; rfl, HW.out.2⟩
def Bp21 (W : World) (v u : Value) (L M : List Pt) : Prop := PtR21 W v L ∧ PtR21 W u M
theorem Bp21.below {W W' : World} {v u : Value} {L M : List Pt} (h : Bp21 W v u L M) (hb : Below W.heap.size W W') : Bp21 W' v u L M := ⟨h.1.below hb, h.2.below hb⟩
theorem within21 (a n : Int) (hn : 0 < n) (hm : n ≤ 1000000000000000000) (w : World) :
    Calls Try.prog 9 #[.int .i64 a, .int .i64 n] w fun e w' => e = .returned (.int .i64 (wth a n)) ∧ w' = w := by
  have h1 := Int.tmod_lt_of_pos a hn
  have h2 := Int.lt_tmod_of_pos a hn
  have hne : ¬ n = 0 := by omega
  have hne1 : ¬ n = -1 := by omega
  obtain ⟨r, hr⟩ : ∃ r, r = a.tmod n := ⟨_, rfl⟩
  have HR := hid13 hr
  rw [← hr] at h1 h2
  have hr' := hr.symm
  clear hr
  by_cases c : r < 0
  · have w2 : IntKind.i64.wrap (r + n) = r + n := by rw [IntKind.wrap_i64]; omega
    have HE : Hid (wth a n = r + n) := by show _ = _; unfold wth; rw [← HR.out, if_pos c]
    go_enter Try.func9, Try.ntmps9
    go_wp2
    go_ret
    exact ⟨by rw [HE.out]; rfl, rfl⟩
  · have HE : Hid (wth a n = r) := by show _ = _; unfold wth; rw [← HR.out, if_neg c]
    go_enter Try.func9, Try.ntmps9
    go_wp2
    go_ret
    exact ⟨by rw [HE.out]; rfl, rfl⟩
end Go.Proofs.Ytiachojhnbicaaa
namespace Go.Proofs.Ytiachojhnbicaaa
open Go.RowKit
set_option linter.unusedSimpArgs false
set_option linter.unusedVariables false

theorem kn21_ne : ¬ ([97, 98, 99, 100, 101] : List Nat) = [97, 98, 88, 101] := by decide
theorem kn21_P : dfP [97, 98, 99, 100, 101] [97, 98, 88, 101] = ⟨2, 2, [88]⟩ := by rfl
set_option maxRecDepth 100000 in
set_option maxHeartbeats 8000000 in
theorem known21 (w : World) :
    Calls Try.prog 5 #[] w fun e w' => e = .returned (.bool true) ∧ Below w.heap.size w w' := by
  have kc1 := Go.Joins.run_convert_bytes_const_at (P := Try.prog) w 22 5 #[.int .u8 97, .int .u8 98, .int .u8 99, .int .u8 100, .int .u8 101] 5 5 w.heap.size rfl Try.underlying22 Try.underlying5
  have q1 := bl1 w (.cells #[.int .u8 97, .int .u8 98, .int .u8 99, .int .u8 100, .int .u8 101] 5 (5, 6))
  have o1 := lit_rwx (f := cB) w #[.int .u8 97, .int .u8 98, .int .u8 99, .int .u8 100, .int .u8 101] 5 (5, 6) [97, 98, 99, 100, 101] rfl
  obtain ⟨w1, hw1⟩ : ∃ w1, w1 = w.alloc (.cells #[.int .u8 97, .int .u8 98, .int .u8 99, .int .u8 100, .int .u8 101] 5 (5, 6)) := ⟨_, rfl⟩
  have kc2 := Go.Joins.run_convert_bytes_const_at (P := Try.prog) w1 22 5 #[.int .u8 97, .int .u8 98, .int .u8 88, .int .u8 101] 4 4 (w.heap.size + 1) (by rw [hw1]; simp) Try.underlying22 Try.underlying5
  rw [hw1] at kc2
  rw [← hw1] at q1 o1
  have q2 := bl1 w1 (.cells #[.int .u8 97, .int .u8 98, .int .u8 88, .int .u8 101] 5 (4, 5))
  have o2 := lit_rwx (f := cB) w1 #[.int .u8 97, .int .u8 98, .int .u8 88, .int .u8 101] 5 (4, 5) [97, 98, 88, 101] rfl
  obtain ⟨w2, hw2⟩ : ∃ w2, w2 = w1.alloc (.cells #[.int .u8 97, .int .u8 98, .int .u8 88, .int .u8 101] 5 (4, 5)) := ⟨_, rfl⟩
  rw [← hw2] at q2 o2
  have o1' := o1.below q2
  have K1 := diff21 _ _ [97, 98, 99, 100, 101] [97, 98, 88, 101] w2 o1' o2 (o1'.row (fun h => by cases h)) (o2.row (fun h => by cases h)) (by decide) (by decide) (by decide) (by decide)
  have HQ : Hid (Below w.heap.size w w2) := keepb q2 q1
  have HW : Hid (w2 = (w.alloc (.cells #[.int .u8 97, .int .u8 98, .int .u8 99, .int .u8 100, .int .u8 101] 5 (5, 6))).alloc (.cells #[.int .u8 97, .int .u8 98, .int .u8 88, .int .u8 101] 5 (4, 5))) := by rw [hw2, hw1]; rfl
  have hsz : w1.heap.size = w.heap.size + 1 := by rw [hw1]; simp
  rw [hsz] at K1
  clear q1 q2 o1 o2 o1' hw1 hw2 hsz
  go_enter Try.func5, Try.ntmps5
  go_wp2_with fail
  rw [← HW.out]
  refine K1.mono ?_
  rintro e w3 ⟨v3, rfl, hd, hb3⟩
  have HB3 : Hid (Below w.heap.size w w3) := keepb hb3 HQ.out
  unfold DfO at hd
  rw [if_neg kn21_ne, kn21_P] at hd
  obtain ⟨z, vx, rfl, h1, h2, -⟩ := hd
  have c0 : w3.cell? ⟨z, 0, none⟩ = some (.int .i64 2) := (h1.cellAt 0 (by decide)).trans rfl
  have c1 : w3.cell? ⟨z, 1, none⟩ = some (.int .i64 2) := (h1.cellAt 1 (by decide)).trans rfl
  have c2 : w3.cell? ⟨z, 2, none⟩ = some vx := (h1.cellAt 2 (by decide)).trans rfl
  have cv := conv13 (own_rwx h2) (by decide)
  obtain ⟨xo, xc, hvx⟩ := own_form h2
  subst hvx
  dsimp only at cv c2
  rw [show ([88] : List Nat).length = 1 from rfl] at cv c2
  have hbq : ((bsA [88]).toList == [88]) = true := by rw [bsA_list]; decide
  generalize bsA [88] = st at *
  clear h1 h2 hb3 HQ K1 HW kc1 kc2
  go_wp2
  go_ret
  exact ⟨by first | rfl | decide, HB3.out⟩
end Go.Proofs.Ytiachojhnbicaaa
namespace Go.Proofs.Ytiachojhnbicaaa
open Go.RowKit
set_option linter.unusedSimpArgs false
set_option linter.unusedVariables false

theorem wp_append_rowA {P : Program} {w : World} {o : Oper} {a : Act} {K : Act → World → Prop} {Q : Exit → Act → World → Prop} (s x : Operand) (t : TypeId)
    (ho : o.op = .call { callee := .builtin .append, args := #[s, x], argTypes := #[t, t] })
    (base : Nat) (e : TypeId) (i : TypeInfo) (z : Value) (size bytes : Nat) (ht : P.underlying t = some (.slice e)) (hi : P.info? e = some i) (hz : i.zero = some z)
    (hsize : i.size = size) (hby : i.bytes = bytes) (hzs : z.cells.size = size) (hsz : 0 < size)
    (v : Value) (n : Nat) (xs : List Value) (hs : a.eval s = v) (hown : w.ownsRow base e size v n xs)
    (vx : Value) (m : Nat) (news : List Value) (hx : a.eval x = vx) (hsrc : RowA w size vx m news) (h1 : ∀ y ∈ news, y.oneCell' = true)
    (h63 : n + m ≤ maxLen) (hbytes : (n + m) * bytes ≤ 140737488355328) (hbase : base ≤ w.heap.size)
    (h : ∀ ao cap w', w'.ownsRow base e size (.slice ao (n + m) cap) (n + m) (xs ++ news) → w.grownBy w' v.ownBlock → K (a.put o.dst (.slice ao (n + m) cap)) w') : o.wp P a w K Q := by
  obtain ⟨hl, xo, c, rfl, hcc, hsrc⟩ := hsrc
  rcases hsrc with ⟨rfl, rfl, rfl⟩ | ⟨ad, rfl, hc⟩
  · have : news = [] := List.eq_nil_of_length_eq_zero (by omega)
    subst this
    have hrun := run_append_owned_none (P := P) (w := w) base t o.type e i size ht hi v n xs hown
    obtain ⟨ao, cp, hv⟩ := own_form hown
    have hh := h ao cp w (by rw [List.append_nil, Nat.add_zero, ← hv]; exact hown) ⟨rfl, rfl, rfl, Nat.le_refl _, fun _ _ _ => rfl⟩
    rw [Nat.add_zero, ← hv] at hh
    unfold Oper.wp
    simp [execOp, ho, resolve, invoke, builtin, hs, hx, hrun, Result.andThen]
    exact hh
  · refine wp_append_own w s x t ho base e i z size bytes ht hi hz hsize hby hzs hsz v n xs hs hown ad m c news hx hl hc h1 h63 hbytes hbase ?_
    intro v' w' h2 h3 _
    obtain ⟨ao, cp, hv⟩ := own_form h2
    rw [hv]
    rw [hv] at h2
    exact h ao cp w' h2 h3
end Go.Proofs.Ytiachojhnbicaaa
