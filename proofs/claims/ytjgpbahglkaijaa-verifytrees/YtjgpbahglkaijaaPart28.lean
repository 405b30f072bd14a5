/-
  Part 28 of the proof: 5 texts, one behind the other.
-/
import Derived.Test.YtjgpbahglkaijaaPart16
import Derived.Test.YtjgpbahglkaijaaPart27
import Derived.Test.YtjgpbahglkaijaaPart18
import Derived.Test.YtjgpbahglkaijaaPart1
import Derived.Deep.Slices
import Derived.Carry
import Derived.SizedLaws
import Derived.ProofKit
import Derived.Lib.SmallJoins
import Derived.Test.YtjgpbahglkaijaaPart3
import Derived.Deep.Strs
namespace Go.Proofs.Ytjgpbahglkaijaa
open Go.RowKit Go.Shelf
set_option linter.unusedSimpArgs false
set_option linter.unusedVariables false
attribute [local go_sem] Oper.semAt_some

theorem trL_ok {F : Int} {l : List Nat} (h : (vfR F l).2.2 = 0) (hl : l.length ≤ 65536) : (trL l).length ≤ 1000000 ∧ ∀ d ∈ trL l, d.r.length ≤ 1000000 := by
  unfold trL
  split
  · refine ⟨by simp [oneN], fun d hd => ?_⟩
    simp [oneN] at hd
    subst hd
    simp
  · rename_i hn
    obtain ⟨h1, h2⟩ := vfP_ok h hn
    have hw : wds l ≤ 16384 := by unfold wds; omega
    refine ⟨by unfold ndsL; rw [List.length_map]; omega, fun d hd => ?_⟩
    unfold ndsL at hd
    obtain ⟨b, hb, rfl⟩ := List.mem_map.mp hd
    obtain ⟨b1, b2, b3, -⟩ := h2 b hb
    dsimp only
    rw [runsV_len _ _ b1]
    omega
theorem TrQ.rwd {w : World} {F : Int} {l : List Nat} {e : Ending} {w' : World} (h : TrQ w F l e w') (hl : l.length ≤ 65536) : ∃ v, e = .returned (.tuple #[v, .int .i64 (vfR F l).2.2]) ∧ Below w.heap.size w w' ∧ RwD w' v (if (vfR F l).2.2 = 0 then trL l else []) ∧ ∃ V, NdO w' w.heap.size v V (if (vfR F l).2.2 = 0 then trL l else []) := by
  obtain ⟨v, V, rfl, h1, h2, h3⟩ := h
  refine ⟨v, rfl, h3, ?_⟩
  by_cases c : (vfR F l).2.2 = 0
  · rw [if_pos c]
    exact ⟨(h2 c).rwd, V, h2 c⟩
  · rw [if_neg c]
    have hv := h1 c
    subst hv
    have h4 : NdO w' w.heap.size (.slice none 0 0) [] [] := NdO.nil (World.ownsRow_nil _ _ _ _)
    exact ⟨h4.rwd, [], h4⟩
set_option maxRecDepth 100000 in
set_option maxHeartbeats 16000000 in
theorem verifyTrees_any (F : Int) (v : Value) (l : List Nat) (w : World) (hF0 : -9223372036854775808 ≤ F) (hF1 : F ≤ 9223372036854775807) (hA : RowA w 1 v l.length (l.map cB)) (hv : RwX cB w v l) (hx : ∀ b ∈ l, b < 256) :
    Calls Try.prog 5 #[.int .i64 F, v] w fun e w' => e = .returned (.bool true) ∧ Below w.heap.size w w' := by
  obtain ⟨i0, hi, hz0, hz1, hz2⟩ := info13 Try.infoB13
  obtain ⟨ao, cc, hvf, -⟩ := id hv
  have HV := hid13 hv
  have HRA := hid13 hA
  have HX := hid13 hx
  subst hvf
  clear hv hx hA hF0 hF1
  go_enter Try.func5, Try.ntmps5
  go_wp2_with fail
  refine (known18 _).mono ?_
  rintro e w2 ⟨rfl, hb2⟩
  have HB2 := hid13 hb2
  clear hb2
  by_cases h1 : (65536 : Int) < (l.length : Int)
  · go_wp2
    go_ret
    exact ⟨rfl, HB2.out⟩
  have hl : l.length ≤ 65536 := by omega
  have HL := hid13 hl
  have q3 := bl1 w2 (.cells #[] 5)
  have HR3 := hid13 ((HRA.out.below HB2.out).below q3)
  have HO3 : Hid ((w2.alloc (.cells #[] 5)).ownsRow w2.heap.size 5 1 (.slice (some ⟨w2.heap.size, 0, none⟩) 0 0) 0 []) := World.ownsRow_made w2 #[] 0 (Nat.le_refl _) (by unfold maxLen; omega) (by simp)
  clear hl
  go_wp2_with (at_builtin; apply stopHere9)
  refine (show wpList _ _ _ _ _ _ from ?_)
  refine wpList_append_rowA rfl _ _ 27 rfl w2.heap.size 5 i0 (.int .u8 0) 1 1 Try.underlying27 hi hz0 hz1 hz2 rfl (by decide) _ 0 [] rfl HO3.out _ l.length (l.map cB) rfl HR3.out (cB_one l) (by have := HL.out; unfold maxLen; omega) (by have := HL.out; omega) q3.size ?_
  intro ao4 c4 w4 hO4 hg4
  rw [Nat.zero_add, List.nil_append] at hO4
  rw [Nat.zero_add]
  have hB4 : Below w2.heap.size w2 w4 := q3.grown hg4 q3.size (fun z hz => (HO3.out.lt z hz).1)
  have HB4 := hid13 (keepb hB4 HB2.out)
  have HR4 := hid13 (own_rwx hO4)
  have K5 := tree18 w4 F _ _ l HR4.out (by have := HL.out; omega) HX.out
  clear hO4 hg4 hB4 q3 HR3 HO3 HB2
  obtain ⟨LT, hLT⟩ : ∃ LT, LT = if (vfR F l).2.2 = 0 then trL l else [] := ⟨_, rfl⟩
  have HLT : Hid (LT.length ≤ 1000000 ∧ ∀ d ∈ LT, d.r.length ≤ 1000000) := hid13 (by
    rw [hLT]
    by_cases c : (vfR F l).2.2 = 0
    · rw [if_pos c]; exact trL_ok c HL.out
    · rw [if_neg c]; exact ⟨by simp, fun d hd => by cases hd⟩)
  have K6 := fun X h => rtree18 X F ao cc l h HL.out HX.out
  have HTq := hid13 (fun (X : World) (e : Ending) (X' : World) (h : TrQ X F l e X') => h.rwd HL.out)
  rw [← hLT] at HTq
  obtain ⟨y3, hy3⟩ : ∃ y, y = (vfR F l).2.2 := ⟨_, rfl⟩
  rw [← hy3] at HTq
  clear hy3 hLT
  go_wp2_with fail
  refine K5.mono ?_
  rintro e w5 hq
  obtain ⟨v5, rfl, hb5, hd5, -⟩ := HTq.out _ _ _ hq
  have HB5 := hid13 (keepb hb5 HB4.out)
  have K7 := K6 w5 (HV.out.below HB5.out)
  have HR5 := hid13 (HR4.out.below hb5)
  have HD5 := hid13 hd5
  clear K5 K6 hb5 hq hd5 HB4 HR4
  go_wp2_with fail
  refine K7.mono ?_
  rintro e w7 hq
  obtain ⟨v7, rfl, hb7, hd7, -⟩ := HTq.out _ _ _ hq
  have HB7 := hid13 (keepb hb7 HB5.out)
  have KS := same_any16 v5 v7 LT w7 (HD5.out.below hb7) hd7 HLT.out.1 HLT.out.2
  have cv1 := conv13 (HR5.out.below hb7) HX.out
  have cv2 := conv13 (HV.out.below HB7.out) HX.out
  obtain ⟨S, hS⟩ : ∃ S, S = bsA l := ⟨_, rfl⟩
  rw [← hS] at cv1 cv2
  clear hb7 hq hd7 K7 HB5 HR5 HD5 hS HTq
  go_wp2_with fail
  refine KS.mono ?_
  rintro e w8 ⟨rfl, hb8⟩
  have HB8 := hid13 (keepb hb8 HB7.out)
  clear hb8 KS HB7
  go_wp2
  go_ret
  exact ⟨rfl, HB8.out⟩
end Go.Proofs.Ytjgpbahglkaijaa
namespace Go.Proofs.Ytjgpbahglkaijaa
open Go.ChangeShapes Go.WideShapes Go.ChangeAt Go.RowKit Go.Joins
set_option linter.unusedSimpArgs false
set_option linter.unusedVariables false

theorem Try.laidOut : laidOutB Try.prog = true := by kernel_rfl
section
variable {H : Type} {enc : TypeId × Value → H} {w : World} {spare : Nat → Bool} {held : Bool}
theorem RwX.map13 {α β : Type} {f : α → Value} {g : β → Value} (h : α → β) {v : Value} {l : List α} (hr : RwX f w v l) (he : ∀ x ∈ l, f x = g (h x)) : RwX g w v (l.map h) := by
  obtain ⟨ao, c, e, hc, hr⟩ := hr
  refine ⟨ao, c, by rw [List.length_map]; exact e, by rw [List.length_map]; exact hc, ?_⟩
  rcases hr with hr | ⟨b, off, e, hr⟩
  · exact .inl (by rw [hr]; rfl)
  · refine .inr ⟨b, off, e, fun j x hj => ?_⟩
    rw [List.getElem?_map] at hj
    cases hx : l[j]? with
    | none => rw [hx] at hj; cases hj
    | some y =>
      rw [hx] at hj
      simp only [Option.map_some, Option.some.injEq] at hj
      rw [hr j y hx, he y (List.mem_of_getElem? hx), hj]
set_option maxRecDepth 100000 in
theorem open_ints13 {t e : TypeId} {k : IntKind} (ht : Try.prog.underlying t = some (.slice e)) (he : Try.prog.underlying e = some (.int k)) (hce : Try.prog.cellsOf e = 1) {r : Reach} {b0 : Nat} {v : Value} {d : DataW H} {p : List MemPlace} (hv : Value.okWide Try.prog w r b0 t v) (h : DataW.Trod enc Try.prog w 0 (fun _ => true) held t v d p) :
    ∃ l : List Int, RowA w 1 v l.length (l.map fun a => .int k a) ∧ RwX (fun a => Value.int k a) w v l ∧ (∀ a ∈ l, (Lit.int k a).wf = true) ∧ (l = [] ∨ ∃ el sp, d = .slice el sp ∧ el.length = l.length) := by
  obtain ⟨a0, len, cap, rfl⟩ := okWide_slice ht hv
  obtain ⟨fuel, hf⟩ := h
  rcases Deep.open_slice ht hf with ⟨hcs, hx⟩ | ⟨a, len', cap', m, n, D, Pl, hcs, _, hl, hm, hmm, hx, hel⟩
  · simp [Value.cells] at hcs
    obtain ⟨rfl, rfl, rfl⟩ := hcs
    exact ⟨[], ⟨rfl, none, 0, rfl, Nat.le_refl _, .inl ⟨rfl, rfl, rfl⟩⟩, ⟨none, 0, rfl, Nat.le_refl _, .inl rfl⟩, (fun _ h => by cases h), .inl rfl⟩
  · simp [Value.cells] at hcs
    obtain ⟨rfl, rfl, rfl⟩ := hcs
    simp at hmm
    subst hmm
    rw [hce] at hel
    obtain ⟨f, hf⟩ := Deep.choose_lt (α := Int) (n := len) (p := fun i x => w.cell? (a.add i) = some (.int k x) ∧ (Lit.int k x).wf = true) (fun i hi => by
      obtain ⟨cs', h1, h2⟩ := hel i (by omega)
      obtain ⟨_, hlen, hc⟩ := World.cells?_some h1
      match cs', hlen with
      | [c0], _ =>
        obtain ⟨x, ex, -, wx⟩ := DataW.trod_int he h2
        simp at ex
        subst ex
        refine ⟨x, ?_, wx⟩
        have := hc 0 (by omega)
        simpa [Addr.add] using this)
    have hlen : ((List.range len).map f).length = len := by simp
    have hcells : ∀ j x, ((List.range len).map f)[j]? = some x → w.cell? (a.add j) = some (.int k x) := by
      intro j x hj
      have hlt : j < len := by have := (List.getElem?_eq_some_iff.1 hj).1; simpa using this
      rw [List.getElem?_map, List.getElem?_range hlt] at hj
      simp only [Option.map_some, Option.some.injEq] at hj
      rw [← hj]; exact (hf j hlt).1
    refine ⟨(List.range len).map f, ⟨by simp, some a, m, by rw [hlen], by rw [hlen]; exact hl, .inr ⟨a, rfl, fun j u hj => ?_⟩⟩, ⟨some a, m, by rw [hlen], by rw [hlen]; exact hl, ?_⟩, ?_, ?_⟩
    · rw [List.getElem?_map] at hj
      cases hx : ((List.range len).map f)[j]? with
      | none => rw [hx] at hj; cases hj
      | some y =>
        rw [hx] at hj
        simp only [Option.map_some, Option.some.injEq] at hj
        rw [← hj]; exact hcells j y hx
    · by_cases hz : len = 0
      · subst hz
        exact .inl (by simp)
      · have h00 := (hf 0 (by omega)).1
        have ea : a = ⟨a.block, a.off, none⟩ := by
          have : a.add 0 = a := by simp [Addr.add]
          rw [this] at h00
          exact spot9 h00
        refine .inr ⟨a.block, a.off, by rw [← ea], fun j u hj => ?_⟩
        have := hcells j u hj
        rw [ea, addA] at this
        exact this
    · intro x hx
      simp only [List.mem_map, List.mem_range] at hx
      obtain ⟨i, hi, rfl⟩ := hx
      exact (hf i hi).2
    · simp only [Prod.mk.injEq] at hx
      exact .inr ⟨_, _, hx.1, by simp⟩
end
end Go.Proofs.Ytjgpbahglkaijaa
namespace Go.Proofs.Ytjgpbahglkaijaa
open Go.ChangeShapes Go.WideShapes Go.ChangeAt Go.RowKit Go.Joins
set_option linter.unusedSimpArgs false
set_option linter.unusedVariables false

section
variable {H : Type} {enc : TypeId × Value → H} {w : World} {spare : Nat → Bool} {held : Bool}
theorem i64_bd14 {a : Int} (h : (Lit.int .i64 a).wf = true) : -9223372036854775808 ≤ a ∧ a ≤ 9223372036854775807 := by
  simp [Lit.wf, IntKind.min, IntKind.max, IntKind.signed, IntKind.bits] at h; omega
end
end Go.Proofs.Ytjgpbahglkaijaa
namespace Go.Proofs.Ytjgpbahglkaijaa
open Go.ChangeShapes Go.WideShapes Go.ChangeAt Go.RowKit Go.Joins
set_option linter.unusedSimpArgs false
set_option linter.unusedVariables false

section
variable {P : Program} {H : Type} {enc : TypeId × Value → H} {w : World} {base : Nat} {spare : Nat → Bool} {held : Bool}
end
end Go.Proofs.Ytjgpbahglkaijaa
namespace Go.Proofs.Ytjgpbahglkaijaa
open Go.RowKit
end Go.Proofs.Ytjgpbahglkaijaa
