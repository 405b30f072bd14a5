/-
  Part 29 of the proof: 4 texts, one behind the other.
-/
import Derived.Test.YtjgpbahglkaijaaDoorPart22
import Derived.Test.YtjgpbahglkaijaaDoorPart28
import Derived.Test.YtjgpbahglkaijaaDoorPart15
import Derived.Test.YtjgpbahglkaijaaDoorPart17
import Derived.Test.YtjgpbahglkaijaaDoorPart1
import Derived.Deep.Slices
import Derived.Carry
import Derived.SizedLaws
import Derived.ProofKit
import Derived.Lib.SmallJoins
namespace Go.Proofs.YtjgpbahglkaijaaDoor
open Go.RowKit Go.Shelf
set_option linter.unusedSimpArgs false
set_option linter.unusedVariables false
attribute [local go_sem] Oper.semAt_some

theorem opC_len18 (l : List Nat) (a : Int) : (opC l a).length ≤ l.length := by
  unfold opC
  split
  · unfold rC; rw [List.length_take, List.length_drop, List.length_drop]; omega
  · simp
noncomputable def imR (x0 x1 x2 x3 : Int) (l : List Nat) : Value × Int :=
  if opE l 0 ≠ 0 then (.agg #[.int .i64 0, .int .i64 0, .int .i64 0, .int .i64 0], opE l 0) else if 16 + ((opC l 0).length : Int) < l.length then (.agg #[.int .i64 0, .int .i64 0, .int .i64 0, .int .i64 0], 22) else
  if (vfR x0 (opC l 0)).2.2 ≠ 0 then (.agg #[.int .i64 0, .int .i64 0, .int .i64 0, .int .i64 0], (vfR x0 (opC l 0)).2.2) else if (vfR x0 (opC l 0)).1 ≠ x1 then (.agg #[.int .i64 0, .int .i64 0, .int .i64 0, .int .i64 0], 28) else (.agg #[.int .i64 x0, .int .i64 x1, .int .i64 x2, .int .i64 x3], 0)
theorem st4b_18 {w W : World} {n z : Nat} {a b c d : Value} (h : Below n w W) (hz : n ≤ z) : Below n w ((((W.setCell ⟨z, 0, none⟩ a).setCell ⟨z, 1, none⟩ b).setCell ⟨z, 2, none⟩ c).setCell ⟨z, 3, none⟩ d) :=
  (((h.setCell (p := ⟨z, 0, none⟩) hz _).setCell (p := ⟨z, 1, none⟩) hz _).setCell (p := ⟨z, 2, none⟩) hz _).setCell (p := ⟨z, 3, none⟩) hz _
set_option maxRecDepth 100000 in
set_option maxHeartbeats 16000000 in
theorem vimage18 (v : Value) (l : List Nat) (w : World) (hv : RwX cB w v l) (hT : Hf w) (hl : l.length ≤ 65536) (hx : ∀ b ∈ l, b < 256) (x0 x1 x2 x3 : Int) (hov : opV l 0 = .agg #[.int .i64 x0, .int .i64 x1, .int .i64 x2, .int .i64 x3]) :
    Calls Tryd.prog 5 #[v] w fun e w' => e = .returned (.tuple #[(imR x0 x1 x2 x3 l).1, .int .i64 (imR x0 x1 x2 x3 l).2]) ∧ Below w.heap.size w w' := by
  obtain ⟨ao, cc, rfl, -, -⟩ := id hv
  have q1 := bl1 w (.cells #[.int .i64 0, .int .i64 0, .int .i64 0, .int .i64 0] 25)
  have n1 := new_16 w (.cells #[.int .i64 0, .int .i64 0, .int .i64 0, .int .i64 0] 25)
  have K1 := open_any _ l 0 _ (hv.below q1) (by omega) hx (hT.below q1)
  rw [hov] at K1
  have HI : Hid (imR x0 x1 x2 x3 l = if opE l 0 ≠ 0 then (.agg #[.int .i64 0, .int .i64 0, .int .i64 0, .int .i64 0], opE l 0) else if 16 + ((opC l 0).length : Int) < l.length then (.agg #[.int .i64 0, .int .i64 0, .int .i64 0, .int .i64 0], 22) else if (vfR x0 (opC l 0)).2.2 ≠ 0 then (.agg #[.int .i64 0, .int .i64 0, .int .i64 0, .int .i64 0], (vfR x0 (opC l 0)).2.2) else if (vfR x0 (opC l 0)).1 ≠ x1 then (.agg #[.int .i64 0, .int .i64 0, .int .i64 0, .int .i64 0], 28) else (.agg #[.int .i64 x0, .int .i64 x1, .int .i64 x2, .int .i64 x3], 0)) := hid13 rfl
  have HCx : Hid ((opC l 0).length ≤ 65536 ∧ ∀ b ∈ opC l 0, b < 256) := hid13 ⟨by have := opC_len18 l 0; omega, opC_lt hx⟩
  have HR1 := hid13 n1
  have HB1 := hid13 q1
  obtain ⟨n, hn⟩ : ∃ n, n = l.length := ⟨_, rfl⟩
  have hnb : (n : Int) ≤ 65536 := by omega
  rw [← hn] at HI K1 ⊢
  generalize imR x0 x1 x2 x3 l = RR at *
  generalize opE l 0 = E at *
  generalize opC l 0 = C at *
  clear hv hov hx hl n1 q1 hn
  go_enter Tryd.func5, Tryd.ntmps5
  go_wp2_with fail
  refine K1.mono ?_
  rintro e w2 ⟨v', rfl, hO, hb2⟩
  obtain ⟨co, c2, hv'⟩ := own_form hO
  have HRw := hid13 (own_rwx hO)
  obtain ⟨cl, hcl⟩ : ∃ cl, cl = C.length := ⟨_, rfl⟩
  rw [← hcl] at hv'
  subst hv'
  have HCl : Hid (cl = C.length) := hcl
  have hclb : (cl : Int) ≤ 65536 := by have := HCx.out.1; omega
  have q3 := bl1 w2 (.cells #[.int .i64 x0, .int .i64 x1, .int .i64 x2, .int .i64 x3] 25)
  have n3 := new_16 w2 (.cells #[.int .i64 x0, .int .i64 x1, .int .i64 x2, .int .i64 x3] 25)
  have HB3 := hid13 (keepb q3 (keepb hb2 HB1.out))
  have HR3 : Hid ((w2.alloc (.cells #[.int .i64 x0, .int .i64 x1, .int .i64 x2, .int .i64 x3] 25)).heap[w.heap.size]? = some (.cells #[.int .i64 0, .int .i64 0, .int .i64 0, .int .i64 0] 25)) := hid13 (((keepb q3 hb2).block _ (lt_16 HR1.out)).trans HR1.out)
  have h0 := at_16 n3 0 _ rfl
  have h1 := at_16 n3 1 _ rfl
  have h2 := at_16 n3 2 _ rfl
  have h3 := at_16 n3 3 _ rfl
  have HN3 := hid13 n3
  have HRw3 := hid13 (HRw.out.below q3)
  have mc : IntKind.i64.wrap (16 + (cl : Int)) = 16 + (cl : Int) := by rw [IntKind.wrap_i64]; omega
  by_cases hE : E = 0
  · subst hE
    by_cases hc : 16 + (cl : Int) < (n : Int)
    · have HZ : Hid (RR = (.agg #[.int .i64 0, .int .i64 0, .int .i64 0, .int .i64 0], 22)) := hid13 (by rw [HI.out, if_neg (by simp), if_pos (by rw [← HCl.out]; exact hc)])
      have HRz := HR3
      have HBz := HB3
      clear hcl hO hb2 q3 n3 K1 HRw HRw3 HI HR1 HB1
      have p0 := at_16 HRz.out 0 _ rfl
      have p1 := at_16 HRz.out 1 _ rfl
      have p2 := at_16 HRz.out 2 _ rfl
      have p3 := at_16 HRz.out 3 _ rfl
      have f0 := fr_16 (j := 0) HRz.out
      have f1 := fr_16 (j := 1) HRz.out
      have f2 := fr_16 (j := 2) HRz.out
      have f3 := fr_16 (j := 3) HRz.out
      go_wp2
      exact bodyPost_ret (v := .tuple #[.agg #[.int .i64 0, .int .i64 0, .int .i64 0, .int .i64 0], .int .i64 22]) (by simp [results, Tryd.results5, go_sem, p0, p1, p2, p3]) rfl ⟨by rw [HZ.out], st4b_18 HBz.out (Nat.le_refl _)⟩
    · have K3 := vcode18 _ x0 _ C HRw3.out (by have := HCx.out.1; omega) HCx.out.2
      have HI2 : Hid (RR = if (vfR x0 C).2.2 ≠ 0 then (.agg #[.int .i64 0, .int .i64 0, .int .i64 0, .int .i64 0], (vfR x0 C).2.2) else if (vfR x0 C).1 ≠ x1 then (.agg #[.int .i64 0, .int .i64 0, .int .i64 0, .int .i64 0], 28) else (.agg #[.int .i64 x0, .int .i64 x1, .int .i64 x2, .int .i64 x3], 0)) := hid13 (by rw [HI.out, if_neg (by simp), if_neg (by rw [← HCl.out]; exact hc)])
      generalize (vfR x0 C).1 = y1 at *
      generalize (vfR x0 C).2.1 = y2 at *
      generalize (vfR x0 C).2.2 = y3 at *
      clear hcl hO hb2 q3 n3 K1 HRw HRw3 HI HR1 HB1
      go_wp2_with fail
      refine K3.mono ?_
      rintro e w4 ⟨rfl, hb4⟩
      have HBz := hid13 (keepb hb4 HB3.out)
      have HRz := hid13 ((hb4.block _ (lt_16 HR3.out)).trans HR3.out)
      have hN4 := (hb4.block _ (lt_16 HN3.out)).trans HN3.out
      clear h0 h1 h2 h3
      have h0 := at_16 hN4 0 _ rfl
      have h1 := at_16 hN4 1 _ rfl
      have h2 := at_16 hN4 2 _ rfl
      have h3 := at_16 hN4 3 _ rfl
      clear K3 hb4 hN4
      by_cases hy : y3 = 0
      · subst hy
        by_cases hd : y1 = x1
        · subst hd
          have HZ : Hid (RR = (.agg #[.int .i64 x0, .int .i64 y1, .int .i64 x2, .int .i64 x3], 0)) := hid13 (by rw [HI2.out, if_neg (by simp), if_neg (by simp)])
          clear HI2 HB3 HR3 HN3
          have p0 := at_16 HRz.out 0 _ rfl
          have p1 := at_16 HRz.out 1 _ rfl
          have p2 := at_16 HRz.out 2 _ rfl
          have p3 := at_16 HRz.out 3 _ rfl
          have f0 := fr_16 (j := 0) HRz.out
          have f1 := fr_16 (j := 1) HRz.out
          have f2 := fr_16 (j := 2) HRz.out
          have f3 := fr_16 (j := 3) HRz.out
          go_wp2
          exact bodyPost_ret (v := .tuple #[.agg #[.int .i64 x0, .int .i64 y1, .int .i64 x2, .int .i64 x3], .int .i64 0]) (by simp [results, Tryd.results5, go_sem, p0, p1, p2, p3]) rfl ⟨by rw [HZ.out], st4b_18 HBz.out (Nat.le_refl _)⟩
        · have hdb : (y1 != x1) = true := by simpa using hd
          have HZ : Hid (RR = (.agg #[.int .i64 0, .int .i64 0, .int .i64 0, .int .i64 0], 28)) := hid13 (by rw [HI2.out, if_neg (by simp), if_pos hd])
          clear HI2 HB3 HR3 HN3 hd
          have p0 := at_16 HRz.out 0 _ rfl
          have p1 := at_16 HRz.out 1 _ rfl
          have p2 := at_16 HRz.out 2 _ rfl
          have p3 := at_16 HRz.out 3 _ rfl
          have f0 := fr_16 (j := 0) HRz.out
          have f1 := fr_16 (j := 1) HRz.out
          have f2 := fr_16 (j := 2) HRz.out
          have f3 := fr_16 (j := 3) HRz.out
          go_wp2
          exact bodyPost_ret (v := .tuple #[.agg #[.int .i64 0, .int .i64 0, .int .i64 0, .int .i64 0], .int .i64 28]) (by simp [results, Tryd.results5, go_sem, p0, p1, p2, p3]) rfl ⟨by rw [HZ.out], st4b_18 HBz.out (Nat.le_refl _)⟩
      · have hyb : (y3 != 0) = true := by simpa using hy
        have HZ : Hid (RR = (.agg #[.int .i64 0, .int .i64 0, .int .i64 0, .int .i64 0], y3)) := hid13 (by rw [HI2.out, if_pos hy])
        clear HI2 HB3 HR3 HN3 hy
        have p0 := at_16 HRz.out 0 _ rfl
        have p1 := at_16 HRz.out 1 _ rfl
        have p2 := at_16 HRz.out 2 _ rfl
        have p3 := at_16 HRz.out 3 _ rfl
        have f0 := fr_16 (j := 0) HRz.out
        have f1 := fr_16 (j := 1) HRz.out
        have f2 := fr_16 (j := 2) HRz.out
        have f3 := fr_16 (j := 3) HRz.out
        go_wp2
        exact bodyPost_ret (v := .tuple #[.agg #[.int .i64 0, .int .i64 0, .int .i64 0, .int .i64 0], .int .i64 y3]) (by simp [results, Tryd.results5, go_sem, p0, p1, p2, p3]) rfl ⟨by rw [HZ.out], st4b_18 HBz.out (Nat.le_refl _)⟩
  · have hEb : (E != 0) = true := by simpa using hE
    have HZ : Hid (RR = (.agg #[.int .i64 0, .int .i64 0, .int .i64 0, .int .i64 0], E)) := hid13 (by rw [HI.out, if_pos hE])
    have HRz := HR3
    have HBz := HB3
    clear hcl hO hb2 q3 n3 K1 HRw HRw3 HI HR1 HB1 hE
    have p0 := at_16 HRz.out 0 _ rfl
    have p1 := at_16 HRz.out 1 _ rfl
    have p2 := at_16 HRz.out 2 _ rfl
    have p3 := at_16 HRz.out 3 _ rfl
    have f0 := fr_16 (j := 0) HRz.out
    have f1 := fr_16 (j := 1) HRz.out
    have f2 := fr_16 (j := 2) HRz.out
    have f3 := fr_16 (j := 3) HRz.out
    go_wp2
    exact bodyPost_ret (v := .tuple #[.agg #[.int .i64 0, .int .i64 0, .int .i64 0, .int .i64 0], .int .i64 E]) (by simp [results, Tryd.results5, go_sem, p0, p1, p2, p3]) rfl ⟨by rw [HZ.out], st4b_18 HBz.out (Nat.le_refl _)⟩
set_option maxRecDepth 100000 in
set_option maxHeartbeats 16000000 in
theorem rimage18 (v : Value) (l : List Nat) (w : World) (hv : RwX cB w v l) (hA : RowA w 1 v l.length (l.map cB)) (hl : l.length ≤ 65536) (hx : ∀ b ∈ l, b < 256) (x0 x1 x2 x3 : Int) (hov : opV l 0 = .agg #[.int .i64 x0, .int .i64 x1, .int .i64 x2, .int .i64 x3]) :
    Calls Tryd.prog 6 #[v] w fun e w' => e = .returned (.tuple #[(imR x0 x1 x2 x3 l).1, .int .i64 (imR x0 x1 x2 x3 l).2]) ∧ Below w.heap.size w w' := by
  obtain ⟨ao, cc, rfl, -, -⟩ := id hv
  have q1 := bl1 w (.cells #[.int .i64 0, .int .i64 0, .int .i64 0, .int .i64 0] 25)
  have n1 := new_16 w (.cells #[.int .i64 0, .int .i64 0, .int .i64 0, .int .i64 0] 25)
  have K1 := ropen17 _ l 0 _ (hv.below q1) (hA.below q1) (by omega) hx
  rw [hov] at K1
  have HI : Hid (imR x0 x1 x2 x3 l = if opE l 0 ≠ 0 then (.agg #[.int .i64 0, .int .i64 0, .int .i64 0, .int .i64 0], opE l 0) else if 16 + ((opC l 0).length : Int) < l.length then (.agg #[.int .i64 0, .int .i64 0, .int .i64 0, .int .i64 0], 22) else if (vfR x0 (opC l 0)).2.2 ≠ 0 then (.agg #[.int .i64 0, .int .i64 0, .int .i64 0, .int .i64 0], (vfR x0 (opC l 0)).2.2) else if (vfR x0 (opC l 0)).1 ≠ x1 then (.agg #[.int .i64 0, .int .i64 0, .int .i64 0, .int .i64 0], 28) else (.agg #[.int .i64 x0, .int .i64 x1, .int .i64 x2, .int .i64 x3], 0)) := hid13 rfl
  have HCx : Hid ((opC l 0).length ≤ 65536 ∧ ∀ b ∈ opC l 0, b < 256) := hid13 ⟨by have := opC_len18 l 0; omega, opC_lt hx⟩
  have HR1 := hid13 n1
  have HB1 := hid13 q1
  obtain ⟨n, hn⟩ : ∃ n, n = l.length := ⟨_, rfl⟩
  have hnb : (n : Int) ≤ 65536 := by omega
  rw [← hn] at HI K1 ⊢
  generalize imR x0 x1 x2 x3 l = RR at *
  generalize opE l 0 = E at *
  generalize opC l 0 = C at *
  clear hv hov hx hl n1 q1 hn
  go_enter Tryd.func6, Tryd.ntmps6
  go_wp2_with fail
  refine K1.mono ?_
  rintro e w2 ⟨v', rfl, hO, hb2⟩
  obtain ⟨co, c2, hv', -, -⟩ := id hO
  have HRw := hid13 (hO)
  obtain ⟨cl, hcl⟩ : ∃ cl, cl = C.length := ⟨_, rfl⟩
  rw [← hcl] at hv'
  subst hv'
  have HCl : Hid (cl = C.length) := hcl
  have hclb : (cl : Int) ≤ 65536 := by have := HCx.out.1; omega
  have q3 := bl1 w2 (.cells #[.int .i64 x0, .int .i64 x1, .int .i64 x2, .int .i64 x3] 25)
  have n3 := new_16 w2 (.cells #[.int .i64 x0, .int .i64 x1, .int .i64 x2, .int .i64 x3] 25)
  have HB3 := hid13 (keepb q3 (keepb hb2 HB1.out))
  have HR3 : Hid ((w2.alloc (.cells #[.int .i64 x0, .int .i64 x1, .int .i64 x2, .int .i64 x3] 25)).heap[w.heap.size]? = some (.cells #[.int .i64 0, .int .i64 0, .int .i64 0, .int .i64 0] 25)) := hid13 (((keepb q3 hb2).block _ (lt_16 HR1.out)).trans HR1.out)
  have h0 := at_16 n3 0 _ rfl
  have h1 := at_16 n3 1 _ rfl
  have h2 := at_16 n3 2 _ rfl
  have h3 := at_16 n3 3 _ rfl
  have HN3 := hid13 n3
  have HRw3 := hid13 (HRw.out.below q3)
  have mc : IntKind.i64.wrap (16 + (cl : Int)) = 16 + (cl : Int) := by rw [IntKind.wrap_i64]; omega
  by_cases hE : E = 0
  · subst hE
    by_cases hc : 16 + (cl : Int) < (n : Int)
    · have HZ : Hid (RR = (.agg #[.int .i64 0, .int .i64 0, .int .i64 0, .int .i64 0], 22)) := hid13 (by rw [HI.out, if_neg (by simp), if_pos (by rw [← HCl.out]; exact hc)])
      have HRz := HR3
      have HBz := HB3
      clear hcl hO hb2 q3 n3 K1 HRw HRw3 HI HR1 HB1
      have p0 := at_16 HRz.out 0 _ rfl
      have p1 := at_16 HRz.out 1 _ rfl
      have p2 := at_16 HRz.out 2 _ rfl
      have p3 := at_16 HRz.out 3 _ rfl
      have f0 := fr_16 (j := 0) HRz.out
      have f1 := fr_16 (j := 1) HRz.out
      have f2 := fr_16 (j := 2) HRz.out
      have f3 := fr_16 (j := 3) HRz.out
      go_wp2
      exact bodyPost_ret (v := .tuple #[.agg #[.int .i64 0, .int .i64 0, .int .i64 0, .int .i64 0], .int .i64 22]) (by simp [results, Tryd.results6, go_sem, p0, p1, p2, p3]) rfl ⟨by rw [HZ.out], st4b_18 HBz.out (Nat.le_refl _)⟩
    · have K3 := rcode18 _ x0 co c2 C (by rw [← HCl.out]; exact HRw3.out) HCx.out.1 HCx.out.2
      rw [← HCl.out] at K3
      have HI2 : Hid (RR = if (vfR x0 C).2.2 ≠ 0 then (.agg #[.int .i64 0, .int .i64 0, .int .i64 0, .int .i64 0], (vfR x0 C).2.2) else if (vfR x0 C).1 ≠ x1 then (.agg #[.int .i64 0, .int .i64 0, .int .i64 0, .int .i64 0], 28) else (.agg #[.int .i64 x0, .int .i64 x1, .int .i64 x2, .int .i64 x3], 0)) := hid13 (by rw [HI.out, if_neg (by simp), if_neg (by rw [← HCl.out]; exact hc)])
      generalize (vfR x0 C).1 = y1 at *
      generalize (vfR x0 C).2.1 = y2 at *
      generalize (vfR x0 C).2.2 = y3 at *
      clear hcl hO hb2 q3 n3 K1 HRw HRw3 HI HR1 HB1
      go_wp2_with fail
      refine K3.mono ?_
      rintro e w4 ⟨rfl, hb4⟩
      have HBz := hid13 (keepb hb4 HB3.out)
      have HRz := hid13 ((hb4.block _ (lt_16 HR3.out)).trans HR3.out)
      have hN4 := (hb4.block _ (lt_16 HN3.out)).trans HN3.out
      clear h0 h1 h2 h3
      have h0 := at_16 hN4 0 _ rfl
      have h1 := at_16 hN4 1 _ rfl
      have h2 := at_16 hN4 2 _ rfl
      have h3 := at_16 hN4 3 _ rfl
      clear K3 hb4 hN4
      by_cases hy : y3 = 0
      · subst hy
        by_cases hd : y1 = x1
        · subst hd
          have HZ : Hid (RR = (.agg #[.int .i64 x0, .int .i64 y1, .int .i64 x2, .int .i64 x3], 0)) := hid13 (by rw [HI2.out, if_neg (by simp), if_neg (by simp)])
          clear HI2 HB3 HR3 HN3
          have p0 := at_16 HRz.out 0 _ rfl
          have p1 := at_16 HRz.out 1 _ rfl
          have p2 := at_16 HRz.out 2 _ rfl
          have p3 := at_16 HRz.out 3 _ rfl
          have f0 := fr_16 (j := 0) HRz.out
          have f1 := fr_16 (j := 1) HRz.out
          have f2 := fr_16 (j := 2) HRz.out
          have f3 := fr_16 (j := 3) HRz.out
          go_wp2
          exact bodyPost_ret (v := .tuple #[.agg #[.int .i64 x0, .int .i64 y1, .int .i64 x2, .int .i64 x3], .int .i64 0]) (by simp [results, Tryd.results6, go_sem, p0, p1, p2, p3]) rfl ⟨by rw [HZ.out], st4b_18 HBz.out (Nat.le_refl _)⟩
        · have hdb : (y1 != x1) = true := by simpa using hd
          have HZ : Hid (RR = (.agg #[.int .i64 0, .int .i64 0, .int .i64 0, .int .i64 0], 28)) := hid13 (by rw [HI2.out, if_neg (by simp), if_pos hd])
          clear HI2 HB3 HR3 HN3 hd
          have p0 := at_16 HRz.out 0 _ rfl
          have p1 := at_16 HRz.out 1 _ rfl
          have p2 := at_16 HRz.out 2 _ rfl
          have p3 := at_16 HRz.out 3 _ rfl
          have f0 := fr_16 (j := 0) HRz.out
          have f1 := fr_16 (j := 1) HRz.out
          have f2 := fr_16 (j := 2) HRz.out
          have f3 := fr_16 (j := 3) HRz.out
          go_wp2
          exact bodyPost_ret (v := .tuple #[.agg #[.int .i64 0, .int .i64 0, .int .i64 0, .int .i64 0], .int .i64 28]) (by simp [results, Tryd.results6, go_sem, p0, p1, p2, p3]) rfl ⟨by rw [HZ.out], st4b_18 HBz.out (Nat.le_refl _)⟩
      · have hyb : (y3 != 0) = true := by simpa using hy
        have HZ : Hid (RR = (.agg #[.int .i64 0, .int .i64 0, .int .i64 0, .int .i64 0], y3)) := hid13 (by rw [HI2.out, if_pos hy])
        clear HI2 HB3 HR3 HN3 hy
        have p0 := at_16 HRz.out 0 _ rfl
        have p1 := at_16 HRz.out 1 _ rfl
        have p2 := at_16 HRz.out 2 _ rfl
        have p3 := at_16 HRz.out 3 _ rfl
        have f0 := fr_16 (j := 0) HRz.out
        have f1 := fr_16 (j := 1) HRz.out
        have f2 := fr_16 (j := 2) HRz.out
        have f3 := fr_16 (j := 3) HRz.out
        go_wp2
        exact bodyPost_ret (v := .tuple #[.agg #[.int .i64 0, .int .i64 0, .int .i64 0, .int .i64 0], .int .i64 y3]) (by simp [results, Tryd.results6, go_sem, p0, p1, p2, p3]) rfl ⟨by rw [HZ.out], st4b_18 HBz.out (Nat.le_refl _)⟩
  · have hEb : (E != 0) = true := by simpa using hE
    have HZ : Hid (RR = (.agg #[.int .i64 0, .int .i64 0, .int .i64 0, .int .i64 0], E)) := hid13 (by rw [HI.out, if_pos hE])
    have HRz := HR3
    have HBz := HB3
    clear hcl hO hb2 q3 n3 K1 HRw HRw3 HI HR1 HB1 hE
    have p0 := at_16 HRz.out 0 _ rfl
    have p1 := at_16 HRz.out 1 _ rfl
    have p2 := at_16 HRz.out 2 _ rfl
    have p3 := at_16 HRz.out 3 _ rfl
    have f0 := fr_16 (j := 0) HRz.out
    have f1 := fr_16 (j := 1) HRz.out
    have f2 := fr_16 (j := 2) HRz.out
    have f3 := fr_16 (j := 3) HRz.out
    go_wp2
    exact bodyPost_ret (v := .tuple #[.agg #[.int .i64 0, .int .i64 0, .int .i64 0, .int .i64 0], .int .i64 E]) (by simp [results, Tryd.results6, go_sem, p0, p1, p2, p3]) rfl ⟨by rw [HZ.out], st4b_18 HBz.out (Nat.le_refl _)⟩
end Go.Proofs.YtjgpbahglkaijaaDoor
namespace Go.Proofs.YtjgpbahglkaijaaDoor
open Go.RowKit Go.Shelf
set_option linter.unusedSimpArgs false
set_option linter.unusedVariables false
attribute [local go_sem] Oper.semAt_some

theorem imR_form (x0 x1 x2 x3 : Int) (l : List Nat) : ∃ y0 y1 y2 y3 : Int, (imR x0 x1 x2 x3 l).1 = .agg #[.int .i64 y0, .int .i64 y1, .int .i64 y2, .int .i64 y3] := by
  unfold imR
  split
  · exact ⟨0, 0, 0, 0, rfl⟩
  split
  · exact ⟨0, 0, 0, 0, rfl⟩
  split
  · exact ⟨0, 0, 0, 0, rfl⟩
  split
  · exact ⟨0, 0, 0, 0, rfl⟩
  · exact ⟨x0, x1, x2, x3, rfl⟩
set_option maxRecDepth 100000 in
set_option maxHeartbeats 16000000 in
theorem verifyImages_any (v : Value) (l : List Nat) (w : World) (hA : RowA w 1 v l.length (l.map cB)) (hv : RwX cB w v l) (hl : l.length * 1 ≤ 140737488351232) (hx : ∀ b ∈ l, b < 256) (hT : Hf w) :
    Calls Tryd.prog 3 #[v] w fun e w' => e = .returned (.bool true) ∧ Below w.heap.size w w' := by
  obtain ⟨i0, hi, hz0, hz1, hz2⟩ := info13 Tryd.infoB13
  obtain ⟨ao, cc, hvf, -⟩ := id hv
  have HT := hid13 hT
  have HV := hid13 hv
  have HRA := hid13 hA
  have HX := hid13 hx
  subst hvf
  clear hv hx hA hT hl
  go_enter Tryd.func3, Tryd.ntmps3
  go_wp2_with fail
  refine (known18 _).mono ?_
  rintro e w2 ⟨rfl, hb2⟩
  have HB2 := hid13 hb2
  clear hb2
  by_cases h1 : (65536 : Int) < (l.length : Int)
  · go_wp2
    go_ret
    exact ⟨rfl, HB2.out⟩
  have hl : l.length ≤ 65536 := by omega
  have HL := hid13 hl
  have q3 := bl1 w2 (.cells #[] 5)
  have HR3 := hid13 ((HRA.out.below HB2.out).below q3)
  have HO3 : Hid ((w2.alloc (.cells #[] 5)).ownsRow w2.heap.size 5 1 (.slice (some ⟨w2.heap.size, 0, none⟩) 0 0) 0 []) := World.ownsRow_made w2 #[] 0 (Nat.le_refl _) (by unfold maxLen; omega) (by simp)
  clear hl
  go_wp2_with (at_builtin; apply stopHere9)
  go_wp2_with (at_builtin; apply stopHere9)
  refine (show wpList _ _ _ _ _ _ from ?_)
  refine wpList_append_rowA rfl _ _ 22 rfl w2.heap.size 5 i0 (.int .u8 0) 1 1 Tryd.underlying22 hi hz0 hz1 hz2 rfl (by decide) _ 0 [] rfl HO3.out _ l.length (l.map cB) rfl HR3.out (cB_one l) (by have := HL.out; unfold maxLen; omega) (by have := HL.out; omega) q3.size ?_
  intro ao4 c4 w4 hO4 hg4
  rw [Nat.zero_add, List.nil_append] at hO4
  rw [Nat.zero_add]
  have hB4 : Below w2.heap.size w2 w4 := q3.grown hg4 q3.size (fun z hz => (HO3.out.lt z hz).1)
  have HB4 := hid13 (keepb hB4 HB2.out)
  have HR4 := hid13 (own_rwx hO4)
  obtain ⟨x0, x1, x2, x3, hov⟩ := opV_form l 0
  have K5 := vimage18 _ l w4 HR4.out (HT.out.below HB4.out) (by have := HL.out; omega) HX.out x0 x1 x2 x3 hov
  have HOv := hid13 hov
  obtain ⟨y0, y1, y2, y3, hy⟩ := imR_form x0 x1 x2 x3 l
  rw [hy] at K5
  have HY := hid13 hy
  obtain ⟨E, hE⟩ : ∃ E, E = (imR x0 x1 x2 x3 l).2 := ⟨_, rfl⟩
  have HE : Hid (E = (imR x0 x1 x2 x3 l).2) := hE
  rw [← hE] at K5
  clear hO4 hg4 hB4 q3 HR3 HO3 HB2 hov hy hE
  go_wp2_with fail
  refine K5.mono ?_
  rintro e w5 ⟨rfl, hb5⟩
  have HB5 := hid13 (keepb hb5 HB4.out)
  have q6 := bl1 w5 (.cells #[.int .i64 y0, .int .i64 y1, .int .i64 y2, .int .i64 y3] 25)
  have HX6 := hid13 (bx_new (t := 25) HB5.out #[.int .i64 y0, .int .i64 y1, .int .i64 y2, .int .i64 y3])
  have K6 := rimage18 _ l (w5.alloc (.cells #[.int .i64 y0, .int .i64 y1, .int .i64 y2, .int .i64 y3] 25)) ((HV.out.below HB5.out).below q6) ((HRA.out.below HB5.out).below q6) HL.out HX.out x0 x1 x2 x3 HOv.out
  rw [HY.out, ← HE.out] at K6
  clear K5 hb5 HB4 HR4 q6
  go_wp2_with fail
  refine K6.mono ?_
  rintro e w7 ⟨rfl, hb7⟩
  have q8 := bl1 w7 (.cells #[.int .i64 y0, .int .i64 y1, .int .i64 y2, .int .i64 y3] 25)
  have HX7 := hid13 (HX6.out.keep (keepb q8 hb7))
  have e0 := HX7.out.2 0 _ rfl
  have e1 := HX7.out.2 1 _ rfl
  have e2 := HX7.out.2 2 _ rfl
  have e3 := HX7.out.2 3 _ rfl
  have HB8 := hid13 HX7.out.1
  have hq := eqH_run y0 y1 y2 y3 y0 y1 y2 y3
  simp only [beq_self_eq_true, Bool.and_self] at hq
  clear hb7 K6 HB5 HX6 HX7 q8 HOv HY HE
  go_wp2
  exact bodyPost_ret (v := .bool true) (by simp [results, Tryd.results3, go_sem]) rfl ⟨rfl, HB8.out⟩
end Go.Proofs.YtjgpbahglkaijaaDoor
namespace Go.Proofs.YtjgpbahglkaijaaDoor
open Go.ChangeShapes Go.WideShapes Go.ChangeAt Go.RowKit Go.Joins
set_option linter.unusedSimpArgs false
set_option linter.unusedVariables false

theorem Tryd.laidOut : laidOutB Tryd.prog = true := by kernel_rfl
theorem reach13 : reachBytes ≤ 140737488351232 := by decide
section
variable {H : Type} {enc : TypeId × Value → H} {w : World} {spare : Nat → Bool} {held : Bool}
theorem RwX.map13 {α β : Type} {f : α → Value} {g : β → Value} (h : α → β) {v : Value} {l : List α} (hr : RwX f w v l) (he : ∀ x ∈ l, f x = g (h x)) : RwX g w v (l.map h) := by
  obtain ⟨ao, c, e, hc, hr⟩ := hr
  refine ⟨ao, c, by rw [List.length_map]; exact e, by rw [List.length_map]; exact hc, ?_⟩
  rcases hr with hr | ⟨b, off, e, hr⟩
  · exact .inl (by rw [hr]; rfl)
  · refine .inr ⟨b, off, e, fun j x hj => ?_⟩
    rw [List.getElem?_map] at hj
    cases hx : l[j]? with
    | none => rw [hx] at hj; cases hj
    | some y =>
      rw [hx] at hj
      simp only [Option.map_some, Option.some.injEq] at hj
      rw [hr j y hx, he y (List.mem_of_getElem? hx), hj]
set_option maxRecDepth 100000 in
theorem open_ints13 {t e : TypeId} {k : IntKind} (ht : Tryd.prog.underlying t = some (.slice e)) (he : Tryd.prog.underlying e = some (.int k)) (hce : Tryd.prog.cellsOf e = 1) {r : Reach} {b0 : Nat} {v : Value} {d : DataW H} {p : List MemPlace} (hv : Value.okWide Tryd.prog w r b0 t v) (h : DataW.Trod enc Tryd.prog w 0 (fun _ => true) held t v d p) :
    ∃ l : List Int, RowA w 1 v l.length (l.map fun a => .int k a) ∧ RwX (fun a => Value.int k a) w v l ∧ (∀ a ∈ l, (Lit.int k a).wf = true) ∧ (l = [] ∨ ∃ el sp, d = .slice el sp ∧ el.length = l.length) := by
  obtain ⟨a0, len, cap, rfl⟩ := okWide_slice ht hv
  obtain ⟨fuel, hf⟩ := h
  rcases Deep.open_slice ht hf with ⟨hcs, hx⟩ | ⟨a, len', cap', m, n, D, Pl, hcs, _, hl, hm, hmm, hx, hel⟩
  · simp [Value.cells] at hcs
    obtain ⟨rfl, rfl, rfl⟩ := hcs
    exact ⟨[], ⟨rfl, none, 0, rfl, Nat.le_refl _, .inl ⟨rfl, rfl, rfl⟩⟩, ⟨none, 0, rfl, Nat.le_refl _, .inl rfl⟩, (fun _ h => by cases h), .inl rfl⟩
  · simp [Value.cells] at hcs
    obtain ⟨rfl, rfl, rfl⟩ := hcs
    simp at hmm
    subst hmm
    rw [hce] at hel
    obtain ⟨f, hf⟩ := Deep.choose_lt (α := Int) (n := len) (p := fun i x => w.cell? (a.add i) = some (.int k x) ∧ (Lit.int k x).wf = true) (fun i hi => by
      obtain ⟨cs', h1, h2⟩ := hel i (by omega)
      obtain ⟨_, hlen, hc⟩ := World.cells?_some h1
      match cs', hlen with
      | [c0], _ =>
        obtain ⟨x, ex, -, wx⟩ := DataW.trod_int he h2
        simp at ex
        subst ex
        refine ⟨x, ?_, wx⟩
        have := hc 0 (by omega)
        simpa [Addr.add] using this)
    have hlen : ((List.range len).map f).length = len := by simp
    have hcells : ∀ j x, ((List.range len).map f)[j]? = some x → w.cell? (a.add j) = some (.int k x) := by
      intro j x hj
      have hlt : j < len := by have := (List.getElem?_eq_some_iff.1 hj).1; simpa using this
      rw [List.getElem?_map, List.getElem?_range hlt] at hj
      simp only [Option.map_some, Option.some.injEq] at hj
      rw [← hj]; exact (hf j hlt).1
    refine ⟨(List.range len).map f, ⟨by simp, some a, m, by rw [hlen], by rw [hlen]; exact hl, .inr ⟨a, rfl, fun j u hj => ?_⟩⟩, ⟨some a, m, by rw [hlen], by rw [hlen]; exact hl, ?_⟩, ?_, ?_⟩
    · rw [List.getElem?_map] at hj
      cases hx : ((List.range len).map f)[j]? with
      | none => rw [hx] at hj; cases hj
      | some y =>
        rw [hx] at hj
        simp only [Option.map_some, Option.some.injEq] at hj
        rw [← hj]; exact hcells j y hx
    · by_cases hz : len = 0
      · subst hz
        exact .inl (by simp)
      · have h00 := (hf 0 (by omega)).1
        have ea : a = ⟨a.block, a.off, none⟩ := by
          have : a.add 0 = a := by simp [Addr.add]
          rw [this] at h00
          exact spot9 h00
        refine .inr ⟨a.block, a.off, by rw [← ea], fun j u hj => ?_⟩
        have := hcells j u hj
        rw [ea, addA] at this
        exact this
    · intro x hx
      simp only [List.mem_map, List.mem_range] at hx
      obtain ⟨i, hi, rfl⟩ := hx
      exact (hf i hi).2
    · simp only [Prod.mk.injEq] at hx
      exact .inr ⟨_, _, hx.1, by simp⟩
end
end Go.Proofs.YtjgpbahglkaijaaDoor
namespace Go.Proofs.YtjgpbahglkaijaaDoor
open Go.ChangeShapes Go.WideShapes Go.ChangeAt Go.RowKit Go.Joins
set_option linter.unusedSimpArgs false
set_option linter.unusedVariables false

section
variable {P : Program} {H : Type} {enc : TypeId × Value → H} {w : World} {base : Nat} {spare : Nat → Bool} {held : Bool}
end
end Go.Proofs.YtjgpbahglkaijaaDoor
