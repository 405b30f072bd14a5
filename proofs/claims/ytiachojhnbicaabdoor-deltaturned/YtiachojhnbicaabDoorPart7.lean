/-
  Part 7 of the proof: 2 texts, one behind the other.
-/
import Derived.Test.YtiachojhnbicaabDoorPart1
import Derived.Test.YtiachojhnbicaabDoorPart6
namespace Go.Proofs.YtiachojhnbicaabDoor
set_option linter.unusedSimpArgs false
set_option linter.unusedVariables false

theorem ld21_len (l ns : List Nat) : (ld21 l ns).length = l.length + 4 * ns.length := by
  unfold ld21
  rw [List.length_append, flat4_len21]
def byF (out : List Nat) (p : Pt) : List Nat := ld21 out [p.k.toNat, p.d.toNat, p.x.length] ++ p.x
def byH (a : List Nat) (n : Nat) : List Nat := ld21 [84, 80, 68, 49] [a.length, (crS a).toNat, n]
def byS (a : List Nat) (n : Nat) (L : List Pt) : List Nat := L.foldl byF (byH a n)
def bySum (l : List Nat) : List Nat := ld21 l [(crS l).toNat]
def byB (a : List Nat) (L : List Pt) : List Nat := if fitB a.length L then bySum (byS a L.length L) else []
def byE (a : List Nat) (L : List Pt) : Int := if fitB a.length L then 0 else 33
theorem byS_take {a : List Nat} {n : Nat} {L : List Pt} {j : Nat} {p : Pt} (h : L[j]? = some p) : byS a n (L.take (j + 1)) = byF (byS a n (L.take j)) p := by
  unfold byS
  rw [List.take_add_one, h, List.foldl_append]
  rfl
theorem byF_len (out : List Nat) (p : Pt) : (byF out p).length = out.length + 12 + p.x.length := by
  unfold byF
  rw [List.length_append, ld21_len]
  show out.length + 4 * 3 + _ = _
  omega
theorem byS_len (a : List Nat) (n : Nat) : ∀ (L : List Pt), (byS a n L).length = 16 + 12 * L.length + wt21 L := by
  intro L
  unfold byS
  suffices h : ∀ (L : List Pt) (o : List Nat), (L.foldl byF o).length = o.length + 12 * L.length + wt21 L by
    rw [h]
    have : (byH a n).length = 16 := by unfold byH; rw [ld21_len]; rfl
    omega
  intro L
  induction L with
  | nil => intro o; simp [wt21]
  | cons p L ih =>
    intro o
    rw [List.foldl_cons, ih, byF_len]
    unfold wt21
    simp
    omega
theorem by4_lt21 (n : Nat) (h : n < 4294967296) : ∀ b ∈ by4 n, b < 256 := by
  intro b hb
  unfold by4 at hb
  simp only [List.mem_cons, List.mem_nil_iff, or_false] at hb
  omega
theorem ld21_lt {l ns : List Nat} (hl : ∀ b ∈ l, b < 256) (hn : ∀ n ∈ ns, n < 4294967296) : ∀ b ∈ ld21 l ns, b < 256 := by
  intro b hb
  unfold ld21 at hb
  rcases List.mem_append.1 hb with h | h
  · exact hl b h
  · obtain ⟨n, h1, h2⟩ := List.mem_flatMap.1 h
    exact by4_lt21 n (hn n h1) b h2
theorem byF_lt {o : List Nat} {p : Pt} (ho : ∀ b ∈ o, b < 256) (hp : p.k.toNat < 4294967296 ∧ p.d.toNat < 4294967296 ∧ p.x.length < 4294967296) (hx : ∀ z ∈ p.x, z < 256) : ∀ b ∈ byF o p, b < 256 := by
  intro b hb
  unfold byF at hb
  rcases List.mem_append.1 hb with h | h
  · refine ld21_lt ho ?_ b h
    intro n hn
    simp only [List.mem_cons, List.mem_nil_iff, or_false] at hn
    rcases hn with rfl | rfl | rfl
    · exact hp.1
    · exact hp.2.1
    · exact hp.2.2
  · exact hx b h
theorem byH_lt (a : List Nat) (n : Nat) (ha : a.length < 4294967296) (hn : n < 4294967296) : ∀ b ∈ byH a n, b < 256 := by
  refine ld21_lt (by decide) ?_
  intro m hm
  have := (crS a).isLt
  simp only [List.mem_cons, List.mem_nil_iff, or_false] at hm
  rcases hm with rfl | rfl | rfl <;> omega
theorem byS_lt (a : List Nat) (n : Nat) (L : List Pt) (hx : ∀ p ∈ L, ∀ z ∈ p.x, z < 256) (ha : a.length < 4294967296) (hn : n < 4294967296) (hp : ∀ p ∈ L, p.k.toNat < 4294967296 ∧ p.d.toNat < 4294967296 ∧ p.x.length < 4294967296) : ∀ b ∈ byS a n L, b < 256 := by
  unfold byS
  suffices h : ∀ (L : List Pt) (o : List Nat), (∀ b ∈ o, b < 256) → (∀ p ∈ L, ∀ z ∈ p.x, z < 256) → (∀ p ∈ L, p.k.toNat < 4294967296 ∧ p.d.toNat < 4294967296 ∧ p.x.length < 4294967296) → ∀ b ∈ L.foldl byF o, b < 256 from h L _ (byH_lt a n ha hn) hx hp
  intro L
  induction L with
  | nil => intro o ho _ _ b hb; exact ho b hb
  | cons p L ih =>
    intro o ho hx hp
    rw [List.foldl_cons]
    exact ih _ (byF_lt ho (hp p (List.mem_cons_self ..)) (hx p (List.mem_cons_self ..))) (fun q hq => hx q (List.mem_cons_of_mem _ hq)) (fun q hq => hp q (List.mem_cons_of_mem _ hq))
theorem fit_nat21 {n : Nat} {L : List Pt} (h : fitB n L = true) : ∀ p ∈ L, 0 ≤ p.k ∧ p.k ≤ n ∧ 0 ≤ p.d ∧ p.d ≤ n := by
  intro p hp
  obtain ⟨j, hj⟩ := List.getElem?_of_mem hp
  obtain ⟨m, hm⟩ := ftS_some j h
  obtain ⟨o1, o2, o3, o4⟩ := (ftS_ok h hj hm).1
  have h2 := ftS_bd (Int.natCast_nonneg n) _ _ hm
  omega
theorem byB_lt (a : List Nat) (L : List Pt) (hx : ∀ p ∈ L, ∀ z ∈ p.x, z < 256) (ha : a.length < 4294967296) (hl : L.length < 4294967296) (hw : wt21 L < 4294967296) : ∀ z ∈ byB a L, z < 256 := by
  intro z hz
  unfold byB at hz
  split at hz
  · rename_i hf
    have hp : ∀ p ∈ L, p.k.toNat < 4294967296 ∧ p.d.toNat < 4294967296 ∧ p.x.length < 4294967296 := by
      intro p hp
      have h1 := fit_nat21 hf p hp
      have h2 : p.x.length ≤ wt21 L := by
        obtain ⟨j, hj⟩ := List.getElem?_of_mem hp
        have h3 := wt21_take hj
        have h4 := wt21_le (L := L) (j + 1)
        omega
      omega
    refine ld21_lt (byS_lt a _ L hx ha hl hp) ?_ z hz
    intro n hn
    rw [List.mem_singleton] at hn
    subst hn
    exact (crS _).isLt
  · cases hz
end Go.Proofs.YtiachojhnbicaabDoor
namespace Go.Proofs.YtiachojhnbicaabDoor
open Go.RowKit Go.Shelf
set_option linter.unusedSimpArgs false
set_option linter.unusedVariables false
attribute [local go_sem] Oper.semAt_some

def pcP (l : List Nat) : Option (Pt × List Nat) :=
  if l.length < 12 then none
  else if (l.drop 12).length < numN13 ((l.drop 8).take 4) then none
  else some (⟨(numN13 (l.take 4) : Int), (numN13 ((l.drop 4).take 4) : Int), (l.drop 12).take (numN13 ((l.drop 8).take 4))⟩, (l.drop 12).drop (numN13 ((l.drop 8).take 4)))
def lsP : Nat → List Nat → Option (List Pt × List Nat)
  | 0, l => some ([], l)
  | n + 1, l => match pcP l with
    | none => none
    | some (p, r) => match lsP n r with
      | none => none
      | some (L, r') => some (p :: L, r')
theorem numN4_lt (l : List Nat) (hx : ∀ z ∈ l, z < 256) : numN13 (l.take 4) < 4294967296 := by
  refine Nat.lt_of_lt_of_le (numN_lt _ (fun b hb => hx b (List.mem_of_mem_take hb))) ?_
  exact Nat.le_trans (Nat.pow_le_pow_right (by decide) (by rw [List.length_take]; exact Nat.min_le_left _ _)) (by decide)
theorem KR21.setN {B N o : Nat} {a b : World} (h : KR21 B a b) (hB : B < a.heap.size) (hN : a.heap.size ≤ N) (u : Value) : KR21 B a (b.setCell ⟨N, o, none⟩ u) := ⟨h.lo.setCell (p := ⟨N, o, none⟩) (show B ≤ N by omega) u, h.ot.set N o u (.inr hN)⟩
theorem RS21.far {w0 : World} {B : Nat} {va vl vp : Value} {l : List Nat} {w : World} (h : RS21 w0 B va vl l vp w) {N o : Nat} (hN : w0.heap.size ≤ N) (hne : B ≠ N) (u : Value) : RS21 w0 B va vl l vp (w.setCell ⟨N, o, none⟩ u) :=
  ⟨h.b.setCell (p := ⟨N, o, none⟩) hN u, h.s, (far_16 hne).trans h.c, h.r, h.a, h.x, h.n⟩
set_option maxRecDepth 100000 in
set_option maxHeartbeats 8000000 in
theorem patchY21 (w0 : World) (B : Nat) (va vl : Value) (l : List Nat) (vp : Value) (p : Pt) (r : List Nat) (w : World) (h : RS21 w0 B va vl l vp w) (hp : pcP l = some (p, r)) :
    Calls Tryd.prog 41 #[.pointer (some ⟨B, 0, none⟩)] w fun e w' => ∃ vx vl', e = .returned (.agg #[.int .i64 p.k, .int .i64 p.d, vx]) ∧ w'.ownsRow w.heap.size 5 1 vx p.x.length (p.x.map cB) ∧ RS21 w0 B va vl' r vp w' ∧ KR21 B w w' := by
  unfold pcP at hp
  by_cases h12 : l.length < 12
  · rw [if_pos h12] at hp; cases hp
  rw [if_neg h12] at hp
  by_cases hm : (l.drop 12).length < numN13 ((l.drop 8).take 4)
  · rw [if_pos hm] at hp; cases hp
  rw [if_neg hm] at hp
  injection hp with hp
  injection hp with hp hr
  have n1 := numN4_lt l h.x
  have n2 := numN4_lt (l.drop 4) (fun z hz => h.x z (List.mem_of_mem_drop hz))
  have n3 := numN4_lt (l.drop 8) (fun z hz => h.x z (List.mem_of_mem_drop hz))
  obtain ⟨kk, hkk⟩ : ∃ k, k = numN13 (l.take 4) := ⟨_, rfl⟩
  obtain ⟨dd, hdd⟩ : ∃ k, k = numN13 ((l.drop 4).take 4) := ⟨_, rfl⟩
  obtain ⟨mm, hmm⟩ : ∃ k, k = numN13 ((l.drop 8).take 4) := ⟨_, rfl⟩
  rw [← hkk] at n1 hp
  rw [← hdd] at n2 hp
  rw [← hmm] at n3 hp hr hm
  have HP : Hid (p.k = (kk : Int) ∧ p.d = (dd : Int) ∧ p.x = (l.drop 12).take mm ∧ r = (l.drop 12).drop mm ∧ p.x.length = mm ∧ 12 ≤ l.length) := by
    refine ⟨by rw [← hp], by rw [← hp], by rw [← hp], hr.symm, ?_, by omega⟩
    rw [← hp]
    show ((l.drop 12).take mm).length = mm
    rw [List.length_take]
    omega
  have c1 : IntKind.i64.wrap (kk : Int) = (kk : Int) := by rw [IntKind.wrap_i64]; omega
  have c2 : IntKind.i64.wrap (dd : Int) = (dd : Int) := by rw [IntKind.wrap_i64]; omega
  have HM : Hid (mm ≤ (l.drop 12).length ∧ mm < 4294967296) := ⟨by omega, n3⟩
  have HE : Hid (kk = numN13 (l.take 4) ∧ dd = numN13 ((l.drop 4).take 4) ∧ mm = numN13 ((l.drop 8).take 4)) := ⟨hkk, hdd, hmm⟩
  have q1 := bl1 w (.cells #[.int .i64 0, .int .i64 0, .slice none 0 0] 38)
  obtain ⟨w1, hw1⟩ : ∃ w1, w1 = w.alloc (.cells #[.int .i64 0, .int .i64 0, .slice none 0 0] 38) := ⟨_, rfl⟩
  have hcb : w1.heap[w.heap.size]? = some (.cells #[.int .i64 0, .int .i64 0, .slice none 0 0] 38) := by rw [hw1]; exact new_16 _ _
  rw [← hw1] at q1
  have HW1 : Hid (w1 = w.alloc (.cells #[.int .i64 0, .int .i64 0, .slice none 0 0] 38)) := hw1
  have H1 : Hid (RS21 w0 B va vl l vp w1 ∧ KR21 B w w1 ∧ B < w.heap.size ∧ w1.heap[w.heap.size]? = some (.cells #[.int .i64 0, .int .i64 0, .slice none 0 0] 38) ∧ w0.heap.size ≤ w.heap.size) := ⟨h.below q1, (KR21.refl B w).below h.lt q1, h.lt, hcb, h.b.size⟩
  have K1 := numY21 w0 B va vl l vp w1 H1.out.1 (by have := HP.out; omega)
  rw [← HE.out.1] at K1
  clear h hp hr hm n1 n2 n3 hkk hdd hmm h12 q1 hw1 hcb
  go_enter Tryd.func41, Tryd.ntmps41
  go_wp2_with fail
  rw [← HW1.out]
  refine K1.mono ?_
  rintro e w2 ⟨vl2, rfl, hs2, hk2⟩
  have H2 := hid13 (And.intro hs2 (H1.out.2.1.trans hk2))
  have hc2 : w2.heap[w.heap.size]? = some (.cells #[.int .i64 0, .int .i64 0, .slice none 0 0] 38) := (hk2.ot.2 _ (lt_16 H1.out.2.2.2.1) (by have := H1.out.2.2.1; omega)).trans H1.out.2.2.2.1
  have HC2 := hid13 hc2
  have K2 := numY21 w0 B va vl2 (l.drop 4) vp w2 hs2 (by rw [List.length_drop]; have := HP.out; omega)
  rw [← HE.out.2.1, List.drop_drop] at K2
  clear K1 hs2 hk2 hc2
  go_wp2_with fail
  refine K2.mono ?_
  rintro e w3 ⟨vl3, rfl, hs3, hk3⟩
  have H3 := hid13 (And.intro hs3 (H2.out.2.trans hk3))
  have hc3 : w3.heap[w.heap.size]? = some (.cells #[.int .i64 0, .int .i64 0, .slice none 0 0] 38) := (hk3.ot.2 _ (lt_16 HC2.out) (by have := H1.out.2.2.1; omega)).trans HC2.out
  have HC3 := hid13 hc3
  have K3 := numY21 w0 B va vl3 (l.drop (4 + 4)) vp w3 hs3 (by rw [List.length_drop]; have := HP.out; omega)
  rw [← HE.out.2.2, List.drop_drop] at K3
  clear K2 hs3 hk3 hc3 H2 HC2
  go_wp2_with fail
  refine K3.mono ?_
  rintro e w4 ⟨vl4, rfl, hs4, hk4⟩
  have H4 := hid13 (And.intro hs4 (H3.out.2.trans hk4))
  have hc4 : w4.heap[w.heap.size]? = some (.cells #[.int .i64 0, .int .i64 0, .slice none 0 0] 38) := (hk4.ot.2 _ (lt_16 HC3.out) (by have := H1.out.2.2.1; omega)).trans HC3.out
  have HC4 := hid13 hc4
  have K4 := nextY21 w0 B va vl4 (l.drop (4 + 4 + 4)) vp mm w4 hs4 HM.out.1 HM.out.2
  clear K3 hs4 hk4 hc4 H3 HC3
  go_wp2_with fail
  refine K4.mono ?_
  rintro e w5 ⟨v5, vl5, rfl, hr5, ha5, hs5, hk5⟩
  have H5 := hid13 (And.intro hs5 (H4.out.2.trans hk5))
  have hc5 : w5.heap[w.heap.size]? = some (.cells #[.int .i64 0, .int .i64 0, .slice none 0 0] 38) := (hk5.ot.2 _ (lt_16 HC4.out) (by have := H1.out.2.2.1; omega)).trans HC4.out
  have HC5 := hid13 hc5
  have hxl : ((l.drop (4 + 4 + 4)).take mm).length = mm := by have := HP.out.2.2.2.2.1; rw [HP.out.2.2.1] at this; exact this
  have K5 := clone21 v5 ((l.drop (4 + 4 + 4)).take mm) w5 (by rw [hxl]; exact ha5.below hs5.b) (by rw [hxl]; have := HM.out; omega)
  clear K4 hr5 ha5 hs5 hk5 hc5 H4 HC4 hxl
  go_wp2_with fail
  refine K5.mono ?_
  rintro e w6 ⟨vx, rfl, ho6, hb6⟩
  have H6 := hid13 (And.intro (H5.out.1.below hb6) (H5.out.2.below H1.out.2.2.1 hb6))
  have hc6 : w6.heap[w.heap.size]? = some (.cells #[.int .i64 0, .int .i64 0, .slice none 0 0] 38) := (hb6.block _ (lt_16 HC5.out)).trans HC5.out
  have HC6 := hid13 hc6
  have hnb : vx.ownBlock ≠ some w.heap.size := by
    intro e
    have h1 := (ho6.lt _ e).1
    have h2 := lt_16 HC5.out
    omega
  have HO6 : Hid (w6.ownsRow w.heap.size 5 1 vx p.x.length (p.x.map cB) ∧ vx.ownBlock ≠ some w.heap.size) := by
    refine ⟨?_, hnb⟩
    rw [HP.out.2.2.1]
    exact own_base16 ho6 (by have := lt_16 HC5.out; omega)
  obtain ⟨xo, xc, hvx⟩ : ∃ o c, vx = .slice o ((l.drop (4 + 4 + 4)).take mm).length c := own_form ho6
  subst hvx
  have z0 := at_16 hc6 0 _ rfl
  have z1 := at_16 hc6 1 _ rfl
  have z2 := at_16 hc6 2 _ rfl
  have f0 := fr_16 (j := 0) hc6
  have f1 := fr_16 (j := 1) hc6
  have f2 := fr_16 (j := 2) hc6
  have hne : B ≠ w.heap.size := by have := H1.out.2.2.1; omega
  clear K5 ho6 hb6 hc6 H5 HC5 hnb
  generalize ((l.drop (4 + 4 + 4)).take mm).length = xn at *
  go_wp2
  have hdd2 : ((l.drop (4 + 4 + 4)).drop mm) = r := HP.out.2.2.2.1.symm
  have hfin := ((H6.out.1.far (N := w.heap.size) (o := 0) H1.out.2.2.2.2 hne (.int .i64 (kk : Int))).far (N := w.heap.size) (o := 1) H1.out.2.2.2.2 hne (.int .i64 (dd : Int))).far (N := w.heap.size) (o := 2) H1.out.2.2.2.2 hne (.slice xo xn xc)
  rw [hdd2] at hfin
  refine bodyPost_ret (v := .agg #[.int .i64 (kk : Int), .int .i64 (dd : Int), .slice xo xn xc]) (by simp [results, Tryd.results41, go_sem, *]) rfl ⟨_, _, by rw [HP.out.1, HP.out.2.1], own_put3 HO6.out.1 HO6.out.2 _ _ _, hfin, ((H6.out.2.setN H1.out.2.2.1 (Nat.le_refl _) _).setN H1.out.2.2.1 (Nat.le_refl _) _).setN H1.out.2.2.1 (Nat.le_refl _) _⟩
set_option maxRecDepth 100000 in
set_option maxHeartbeats 8000000 in
theorem patchN21 (w0 : World) (B : Nat) (va vl : Value) (l : List Nat) (vp : Value) (w : World) (h : RS21 w0 B va vl l vp w) (hp : pcP l = none) :
    Calls Tryd.prog 41 #[.pointer (some ⟨B, 0, none⟩)] w fun e w' => e = .panicked (pan21 22) ∧ KR21 B w w' := by
  have q1 := bl1 w (.cells #[.int .i64 0, .int .i64 0, .slice none 0 0] 38)
  obtain ⟨w1, hw1⟩ : ∃ w1, w1 = w.alloc (.cells #[.int .i64 0, .int .i64 0, .slice none 0 0] 38) := ⟨_, rfl⟩
  rw [← hw1] at q1
  have HW1 : Hid (w1 = w.alloc (.cells #[.int .i64 0, .int .i64 0, .slice none 0 0] 38)) := hw1
  have H1 : Hid (RS21 w0 B va vl l vp w1 ∧ KR21 B w w1) := ⟨h.below q1, (KR21.refl B w).below h.lt q1⟩
  have HX := hid13 h.x
  clear hw1 q1 h
  by_cases h4 : 4 ≤ l.length
  rotate_left 1
  · have K1 := numN21 w0 B va vl l vp w1 H1.out.1 h4
    clear hp h4
    go_enter Tryd.func41, Tryd.ntmps41
    go_wp2_with fail
    rw [← HW1.out]
    refine K1.mono ?_
    rintro e w2 ⟨rfl, hw2⟩
    replace hw2 := hw2.symm
    subst hw2
    exact ⟨rfl, rfl, H1.out.2⟩
  have K1 := numY21 w0 B va vl l vp w1 H1.out.1 h4
  obtain ⟨kk, hkk⟩ : ∃ k, k = numN13 (l.take 4) := ⟨_, rfl⟩
  rw [← hkk] at K1
  clear hkk
  by_cases h8 : 4 ≤ (l.drop 4).length
  rotate_left 1
  · have H8 := hid13 h8
    clear hp h4 h8
    go_enter Tryd.func41, Tryd.ntmps41
    go_wp2_with fail
    rw [← HW1.out]
    refine K1.mono ?_
    rintro e w2 ⟨vl2, rfl, hs2, hk2⟩
    have H2 := hid13 (H1.out.2.trans hk2)
    have K2 := numN21 w0 B va vl2 (l.drop 4) vp w2 hs2 H8.out
    clear K1 hs2 hk2
    go_wp2_with fail
    refine K2.mono ?_
    rintro e w3 ⟨rfl, hw3⟩
    replace hw3 := hw3.symm
    subst hw3
    exact ⟨rfl, rfl, H2.out⟩
  have H8 := hid13 h8
  obtain ⟨dd, hdd⟩ : ∃ k, k = numN13 ((l.drop 4).take 4) := ⟨_, rfl⟩
  have HD := hid13 hdd
  by_cases h12 : 4 ≤ (l.drop (4 + 4)).length
  rotate_left 1
  · have H12 := hid13 h12
    clear hp h4 h8 h12 hdd
    go_enter Tryd.func41, Tryd.ntmps41
    go_wp2_with fail
    rw [← HW1.out]
    refine K1.mono ?_
    rintro e w2 ⟨vl2, rfl, hs2, hk2⟩
    have H2 := hid13 (H1.out.2.trans hk2)
    have K2 := numY21 w0 B va vl2 (l.drop 4) vp w2 hs2 H8.out
    rw [← HD.out, List.drop_drop] at K2
    clear K1 hs2 hk2
    go_wp2_with fail
    refine K2.mono ?_
    rintro e w3 ⟨vl3, rfl, hs3, hk3⟩
    have H3 := hid13 (H2.out.trans hk3)
    have K3 := numN21 w0 B va vl3 (l.drop (4 + 4)) vp w3 hs3 H12.out
    clear K2 hs3 hk3
    go_wp2_with fail
    refine K3.mono ?_
    rintro e w4 ⟨rfl, hw4⟩
    replace hw4 := hw4.symm
    subst hw4
    exact ⟨rfl, rfl, H3.out⟩
  have H12 := hid13 h12
  obtain ⟨mm, hmm⟩ : ∃ k, k = numN13 ((l.drop (4 + 4)).take 4) := ⟨_, rfl⟩
  have HM := hid13 hmm
  have n3 := numN4_lt (l.drop 8) (fun z hz => HX.out z (List.mem_of_mem_drop hz))
  have HN : Hid (¬ mm ≤ (l.drop (4 + 4 + 4)).length ∧ mm < 4294967296) := by
    refine ⟨?_, by rw [hmm]; exact n3⟩
    intro hle
    unfold pcP at hp
    rw [List.length_drop] at h12
    rw [if_neg (by omega : ¬ l.length < 12), if_neg (by
      have e : numN13 ((l.drop 8).take 4) = mm := hmm.symm
      rw [e]
      have : (l.drop 12).length = (l.drop (4 + 4 + 4)).length := rfl
      omega)] at hp
    cases hp
  clear hp h4 h8 h12 hdd hmm n3
  go_enter Tryd.func41, Tryd.ntmps41
  go_wp2_with fail
  rw [← HW1.out]
  refine K1.mono ?_
  rintro e w2 ⟨vl2, rfl, hs2, hk2⟩
  have H2 := hid13 (H1.out.2.trans hk2)
  have K2 := numY21 w0 B va vl2 (l.drop 4) vp w2 hs2 H8.out
  rw [← HD.out, List.drop_drop] at K2
  clear K1 hs2 hk2
  go_wp2_with fail
  refine K2.mono ?_
  rintro e w3 ⟨vl3, rfl, hs3, hk3⟩
  have H3 := hid13 (H2.out.trans hk3)
  have K3 := numY21 w0 B va vl3 (l.drop (4 + 4)) vp w3 hs3 H12.out
  rw [← HM.out, List.drop_drop] at K3
  clear K2 hs3 hk3
  go_wp2_with fail
  refine K3.mono ?_
  rintro e w4 ⟨vl4, rfl, hs4, hk4⟩
  have H4 := hid13 (H3.out.trans hk4)
  have K4 := nextN21 w0 B va vl4 (l.drop (4 + 4 + 4)) vp mm w4 hs4 HN.out.1 HN.out.2
  clear K3 hs4 hk4
  go_wp2_with fail
  refine K4.mono ?_
  rintro e w5 ⟨rfl, hw5⟩
  replace hw5 := hw5.symm
  subst hw5
  exact ⟨rfl, rfl, H4.out⟩
end Go.Proofs.YtiachojhnbicaabDoor
