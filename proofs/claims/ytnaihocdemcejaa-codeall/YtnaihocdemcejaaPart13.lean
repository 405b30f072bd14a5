/-
  Part 13 of the proof: 2 texts, one behind the other.
-/
import Derived.Test.YtnaihocdemcejaaPart12
import Derived.Test.YtnaihocdemcejaaPart9
/-
  The law CodeReads.
-/
namespace Go.Proofs.Ytnaihocdemcejaa
open Go.RowKit
set_option linter.unusedSimpArgs false
set_option linter.unusedVariables false

theorem rdecode14 (v : Value) (l : List Nat) (a : Int) (w : World) (hv : RwX cB w v l) (hl : l.length ≤ 100000) (hx : ∀ b ∈ l, b < 256) :
    Calls Try.prog 18 #[v, .int .i64 a] w fun e w' => ∃ v', e = .returned (.tuple #[insV (dcI l a) v', .int .i64 (dcZ l a), .int .i64 (dcE l a)]) ∧ w'.ownsRow w.heap.size 56 1 v' (dcI l a).m.length ((dcI l a).m.map cU) ∧ Below w.heap.size w w' := by
  cases hs : stB l.length a 1 with
  | false => exact rdecode_out v l a w hv hl hx hs
  | true =>
    have h2 : 0 ≤ a ∧ a.toNat < l.length / 4 := by unfold stB at hs; simp at hs; constructor <;> omega
    obtain ⟨k, rfl⟩ : ∃ k : Nat, a = (k : Int) := ⟨a.toNat, by omega⟩
    rw [Int.toNat_natCast] at h2
    exact rdecode_in v l k w hv hl hx h2.2
theorem dcI_len14 (l : List Nat) (a : Int) : (dcI l a).m.length ≤ 524288 := by
  unfold dcI
  split
  · exact rdP_len _ _
  · simp
set_option maxRecDepth 100000 in
set_option maxHeartbeats 16000000 in
theorem codeReads_any (v : Value) (l : List Nat) (a : Int) (w : World) (hA : RowA w 1 v l.length (l.map cB)) (hv : RwX cB w v l) (hx : ∀ b ∈ l, b < 256) (ha0 : -9223372036854775808 ≤ a) (ha1 : a ≤ 9223372036854775807) :
    Calls Try.prog 4 #[v, .int .i64 a] w fun e w' => e = .returned (.bool true) ∧ Below w.heap.size w w' := by
  obtain ⟨i0, hi, hz0, hz1, hz2⟩ := info13 Try.infoB13
  obtain ⟨ao, cc, hvf, -⟩ := id hv
  have HV := hid13 hv
  have HRA := hid13 hA
  have HX := hid13 hx
  subst hvf
  clear hv hx hA ha0 ha1
  go_enter Try.func4, Try.ntmps4
  go_wp2_with fail
  refine (known14 _).mono ?_
  rintro e w2 ⟨rfl, hb2⟩
  have HB2 := hid13 hb2
  clear hb2
  by_cases h1 : (65536 : Int) < (l.length : Int)
  · go_wp2
    go_ret
    exact ⟨rfl, HB2.out⟩
  have hl : l.length ≤ 65536 := by omega
  have HL := hid13 hl
  have q3 := bl1 w2 (.cells #[] 5)
  have HR3 := hid13 ((HRA.out.below HB2.out).below q3)
  have HO3 : Hid ((w2.alloc (.cells #[] 5)).ownsRow w2.heap.size 5 1 (.slice (some ⟨w2.heap.size, 0, none⟩) 0 0) 0 []) := World.ownsRow_made w2 #[] 0 (Nat.le_refl _) (by unfold maxLen; omega) (by simp)
  clear hl
  go_wp2_with (at_builtin; apply stopHere9)
  refine (show wpList _ _ _ _ _ _ from ?_)
  refine wpList_append_rowA rfl _ _ 25 rfl w2.heap.size 5 i0 (.int .u8 0) 1 1 Try.underlying25 hi hz0 hz1 hz2 rfl (by decide) _ 0 [] rfl HO3.out _ l.length (l.map cB) rfl HR3.out (cB_one l) (by have := HL.out; unfold maxLen; omega) (by have := HL.out; omega) q3.size ?_
  intro ao4 c4 w4 hO4 hg4
  rw [Nat.zero_add, List.nil_append] at hO4
  rw [Nat.zero_add]
  have hB4 : Below w2.heap.size w2 w4 := q3.grown hg4 q3.size (fun z hz => (HO3.out.lt z hz).1)
  have HB4 := hid13 (keepb hB4 HB2.out)
  have HR4 := hid13 (own_rwx hO4)
  have K5 := decode_any _ l a w4 HR4.out (by have := HL.out; omega) HX.out
  clear hO4 hg4 hB4 q3 HR3 HO3 HB2
  go_wp2_with fail
  refine K5.mono ?_
  rintro e w5 ⟨v5, rfl, hO5, hb5⟩
  obtain ⟨ao5, c5, hv5⟩ := own_form hO5
  subst hv5
  have HIl := hid13 (dcI_len14 l a)
  have HV5 := hid13 (HV.out.below (keepb hb5 HB4.out))
  have K6 := fun W (h : RwX cB W (.slice ao l.length cc) l) => rdecode14 _ l a W h (by have := HL.out; omega) HX.out
  obtain ⟨I, hI⟩ : ∃ I, I = dcI l a := ⟨_, rfl⟩
  obtain ⟨E, hE⟩ : ∃ E, E = dcE l a := ⟨_, rfl⟩
  obtain ⟨Z, hZ⟩ : ∃ Z, Z = dcZ l a := ⟨_, rfl⟩
  rw [← hI, ← hE, ← hZ] at K6 ⊢
  rw [← hI] at hO5 HIl
  unfold insV at K6 ⊢
  have q6 := bl1 w5 (.cells #[.int .i64 I.op, .int .i64 I.n, .slice ao5 I.m.length c5] 24)
  have HI6 := hid13 (ati_new w5 I.op I.n (.slice ao5 I.m.length c5) 24)
  have HB6 := hid13 (keepb q6 (keepb hb5 HB4.out))
  have HR6 := hid13 ((HR4.out.below hb5).below q6)
  have HO6 := hid13 ((own_rwx hO5).below q6)
  have K6' := K6 _ (HV.out.below HB6.out)
  clear K5 hO5 hb5 q6 HB4 HR4 HV5 K6 hI hE hZ
  go_wp2_with fail
  refine K6'.mono ?_
  rintro e w7 ⟨v7, rfl, hO7, hb7⟩
  obtain ⟨ao7, c7, hv7⟩ := own_form hO7
  subst hv7
  have q8 := bl1 w7 (.cells #[.int .i64 I.op, .int .i64 I.n, .slice ao7 I.m.length c7] 24)
  have HI8 := hid13 ((HI6.out.below hb7).below q8)
  have HJ8 := hid13 (ati_new w7 I.op I.n (.slice ao7 I.m.length c7) 24)
  have HB8 := hid13 (keepb q8 (keepb hb7 HB6.out))
  have HR8 := hid13 ((HR6.out.below hb7).below q8)
  have HO8 := hid13 ((HO6.out.below hb7).below q8)
  have HP8 := hid13 ((own_rwx hO7).below q8)
  have HV8 := hid13 (HV.out.below HB8.out)
  have cv1 := conv13 HR8.out HX.out
  have cv2 := conv13 HV8.out HX.out
  have KS := same_any I I (.slice ao5 I.m.length c5) (.slice ao7 I.m.length c7) _ HO8.out HP8.out (by have := HIl.out; omega)
  rw [(sameB_iff _ _).2 rfl] at KS
  unfold insV at KS
  obtain ⟨x0, x1, x2⟩ := HI8.out
  obtain ⟨y0, y1, y2⟩ := HJ8.out
  clear hO7 hb7 q8 K6' HI6 HB6 HR6 HO6 HR8 HO8 HP8 HV8 HI8 HJ8
  go_wp2_with fail
  refine KS.mono ?_
  rintro e w9 ⟨rfl, hb9⟩
  have HB9 := hid13 (keepb hb9 HB8.out)
  clear KS hb9 x0 x1 x2 y0 y1 y2 cv1 cv2
  go_wp2
  go_ret
  exact ⟨rfl, HB9.out⟩
end Go.Proofs.Ytnaihocdemcejaa
/-
  The memory of the law CodeAll.
-/
namespace Go.Proofs.Ytnaihocdemcejaa
open Go.RowKit Go.Shelf
set_option linter.unusedSimpArgs false
set_option linter.unusedVariables false

theorem at_a14 {W : World} {z : Nat} {cs : Array Value} {T : TypeId} (hz : W.heap[z]? = some (.cells cs T)) (j : Nat) (u : Value) (hj : cs[j]? = some u) : W.cell? ⟨z, j, none⟩ = some u := by
  simp [World.cell?, hz, hj]
theorem fr_a14 {W : World} {z j : Nat} {cs : Array Value} {T : TypeId} (h : W.heap[z]? = some (.cells cs T)) : W.frozen? ⟨z, j, none⟩ = false := by simp [World.frozen?, h]
theorem set_a14 {W : World} {P o : Nat} {cs : Array Value} {T : TypeId} (h : W.heap[P]? = some (.cells cs T)) (v : Value) : (W.setCell ⟨P, o, none⟩ v).heap[P]? = some (.cells (cs.setIfInBounds o v) T) := by
  simp [World.setCell, Array.getElem?_modify, h]
theorem lt_a14 {w : World} {z : Nat} {o : Obj} (hz : w.heap[z]? = some o) : z < w.heap.size := (Array.getElem?_eq_some_iff.1 hz).1
theorem far_a14 {W : World} {z P o : Nat} {v : Value} (h : z ≠ P) : (W.setCell ⟨P, o, none⟩ v).heap[z]? = W.heap[z]? := Below.heap_setCell W ⟨P, o, none⟩ v z h
theorem blk_kept {W W' : World} {row : Option Nat} (hg : W.grownBy W' row) (hr : ∀ r, row = some r → ∃ o : Obj, W.heap[r]? = some o ∧ o.isCells = false) {z : Nat} {cs : Array Value} {T : TypeId} {fr : Nat × Nat} (h : W.heap[z]? = some (.cells cs T fr)) : W'.heap[z]? = some (.cells cs T fr) := by
  refine (hg.block z (lt_a14 h) (fun e => ?_)).trans h
  obtain ⟨o, h1, h2⟩ := hr z e.symm
  rw [h] at h1
  cases h1
  cases h2
theorem cell_kept14 {W W' : World} {row : Option Nat} (hg : W.grownBy W' row) (hr : ∀ r, row = some r → ∃ o : Obj, W.heap[r]? = some o ∧ o.isCells = false) {b o : Nat} {v : Value} (h : W.cell? ⟨b, o, none⟩ = some v) : W'.cell? ⟨b, o, none⟩ = some v := by
  have hb := cell_in h
  refine (World.cell?_of_block (a := ⟨b, o, none⟩) (hg.block b hb (fun e => ?_))).trans h
  obtain ⟨x, h1, h2⟩ := hr b e.symm
  rw [World.cell?, h1] at h
  cases x with
  | cells cs T fr => cases h2
  | _ => simp at h
theorem own_kept14 {W W' : World} {row : Option Nat} (hg : W.grownBy W' row) (hr : ∀ r, row = some r → ∃ o : Obj, W.heap[r]? = some o ∧ o.isCells = false) {base e size n : Nat} {v : Value} {xs : List Value} (h : W.ownsRow base e size v n xs) : W'.ownsRow base e size v n xs := by
  refine h.kept hg ?_
  cases hv : v.ownBlock with
  | none => exact .inl rfl
  | some z =>
    refine .inr fun e => ?_
    obtain ⟨o, h1, h2⟩ := hr z e.symm
    obtain ⟨cs, T, fr, h3⟩ := own_cells14 h hv
    rw [h3] at h1
    cases h1
    cases h2
theorem rwx_kept14 {α : Type} {f : α → Value} {W W' : World} {row : Option Nat} (hg : W.grownBy W' row) (hr : ∀ r, row = some r → ∃ o : Obj, W.heap[r]? = some o ∧ o.isCells = false) {v : Value} {l : List α} (h : RwX f W v l) : RwX f W' v l := by
  obtain ⟨ao, c, e, hc, h⟩ := h
  refine ⟨ao, c, e, hc, ?_⟩
  rcases h with h | ⟨b, off, e2, h⟩
  · exact .inl h
  · exact .inr ⟨b, off, e2, fun j x hj => cell_kept14 hg hr (h j x hj)⟩
/-- The law's variables, and what the sequence goes over. -/
structure AV (w : World) (bv v' : Value) (st : Int) (A : Nat) (l : List Nat) (W : World) : Prop where
  bx : W.heap[w.heap.size]? = some (.cells #[bv] 25)
  st : W.heap[w.heap.size + 1]? = some (.cells #[.int .i64 st] 3)
  rs : W.heap[w.heap.size + 2]? = some (.cells #[.bool false] 4)
  ob : W.heap[A]? = some (.cells #[v'] 25)
  ow : W.ownsRow w.heap.size 5 1 v' l.length (l.map cB)
  b : Below w.heap.size w W
  nA : w.heap.size + 2 < A
  nO : ∀ z, v'.ownBlock = some z → w.heap.size + 2 < z
section
variable {w W W' : World} {bv v' : Value} {st : Int} {A : Nat} {l : List Nat}
theorem AV.below (h : AV w bv v' st A l W) (hb : Below W.heap.size W W') : AV w bv v' st A l W' :=
  ⟨(hb.block _ (lt_a14 h.bx)).trans h.bx, (hb.block _ (lt_a14 h.st)).trans h.st, (hb.block _ (lt_a14 h.rs)).trans h.rs, (hb.block _ (lt_a14 h.ob)).trans h.ob, own_b13 hb h.ow, keepb hb h.b, h.nA, h.nO⟩
theorem AV.kept {row : Option Nat} (h : AV w bv v' st A l W) (hg : W.grownBy W' row) (hr : ∀ r, row = some r → ∃ o : Obj, W.heap[r]? = some o ∧ o.isCells = false) (hw : ∀ r, row = some r → w.heap.size ≤ r) : AV w bv v' st A l W' :=
  ⟨blk_kept hg hr h.bx, blk_kept hg hr h.st, blk_kept hg hr h.rs, blk_kept hg hr h.ob, own_kept14 hg hr h.ow, h.b.grown hg h.b.size hw, h.nA, h.nO⟩
theorem AV.set (h : AV w bv v' st A l W) {B o : Nat} (u : Value) (h1 : w.heap.size + 2 < B) (h2 : A ≠ B) (h3 : v'.ownBlock ≠ some B) : AV w bv v' st A l (W.setCell ⟨B, o, none⟩ u) :=
  ⟨(far_a14 (by omega)).trans h.bx, (far_a14 (by omega)).trans h.st, (far_a14 (by omega)).trans h.rs, (far_a14 h2).trans h.ob, ownsRow_setCell_other h.ow h3 u, h.b.setCell (p := ⟨B, o, none⟩) (by show w.heap.size ≤ B; omega) u, h.nA, h.nO⟩
theorem AV.owm (h : AV w bv v' st A l W) : ∃ ao c, v' = .slice ao l.length c ∧ OwM (fun z => z = A ∨ v'.ownBlock = some z) A ao c l W := by
  obtain ⟨ao, c, e⟩ := own_form h.ow
  have hr := own_rwx (l := l) (f := cB) h.ow
  subst e
  refine ⟨ao, c, rfl, at_a14 h.ob 0 _ rfl, .inl rfl, hr, fun _ ad e => .inr ?_⟩
  subst e
  rcases h.ow.2 with ⟨h1, -⟩ | ⟨g, cap, cur, h1, -⟩
  · cases h1
  · injection h1 with h1
    injection h1 with h1
    subst h1
    rfl
theorem AV.lt (h : AV w bv v' st A l W) : A < W.heap.size ∧ ∀ z, v'.ownBlock = some z → z < W.heap.size := ⟨lt_a14 h.ob, fun z hz => (h.ow.lt z hz).2⟩
end
end Go.Proofs.Ytnaihocdemcejaa
