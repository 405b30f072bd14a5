/-
  Part 12 of the proof: 3 texts, one behind the other.
-/
import Derived.Test.YtiachojhnbicaabDoorPart8
import Derived.Test.YtiachojhnbicaabDoorPart10
import Derived.Test.YtiachojhnbicaabDoorPart11
import Derived.Recover
import Derived.Test.YtiachojhnbicaabDoorPart3
import Derived.Test.YtiachojhnbicaabDoorPart1
import Derived.Test.YtiachojhnbicaabDoorPart2
import Derived.Deep.CutBlock
import Derived.Deep.DeepCutAuto
namespace Go.Proofs.YtiachojhnbicaabDoor
open Go.RowKit Go.Shelf
set_option linter.unusedSimpArgs false
set_option linter.unusedVariables false
attribute [local go_sem] Oper.semAt_some

theorem asE21 (v : Value) (W : World) : (Instr.typeAssert (.iface 24 v) 20 24 true).run Tryd.prog W = .ok (.tuple #[v, .bool true]) W := by kernel_rfl
theorem asN21 (W : World) : (Instr.typeAssert .nilIface 20 24 true).run Tryd.prog W = .ok (.tuple #[.int .i64 0, .bool false]) W := by kernel_rfl
theorem catchP21 (p q : Addr) (x y : Value) (E : Int) (older : List PanicEntry) (w : World) (hc : w.cell? p = some x) (hz : w.frozen? p = false) (hc2 : w.cell? q = some y) (hz2 : w.frozen? q = false) (hne : p ≠ q) :
    CallsD Tryd.prog 29 #[.pointer (some p), .pointer (some q)] (.panicking ({ v := .iface 24 (.int .i64 E), recovered := false } :: older)) w fun e u' w' =>
      e = .returned (.tuple #[]) ∧ u' = .panicking ({ v := .iface 24 (.int .i64 E), recovered := true } :: older) ∧ w' = (w.setCell p (.slice none 0 0)).setCell q (.int .i64 E) := by
  have a1 := asE21
  refine callsD_of_wpS Tryd.func29 rfl fun c₀ cs hu => ?_
  apply wpS_seq
  apply wpS_region
  simp [wpOpsS, go_sem, recoverD, hu, Tryd.ntmps29, Exit.thenS, a1]
  apply wpS_seq
  apply wpS_region
  simp [wpOpsS, go_sem, Exit.thenS, Array.replicate]
  refine wpS_cond (t := true) (by simp [Act.eval, Array.replicate]) ?_
  simp only [if_true]
  apply wpS_region
  simp [wpOpsS, go_sem, hc, hz, hc2, hz2, World.cell?_setCell_other, World.frozen?_setCell, bodyPostS, results, Tryd.results29, hne, Array.replicate]
theorem catchI21 (p q : Addr) (w : World) :
    CallsD Tryd.prog 29 #[.pointer (some p), .pointer (some q)] .returning w fun e u' w' => e = .returned (.tuple #[]) ∧ u' = .returning ∧ w' = w := by
  have a2 := asN21
  refine callsD_of_wpS Tryd.func29 rfl fun c₀ cs hu => ?_
  apply wpS_seq
  apply wpS_region
  simp [wpOpsS, go_sem, recoverD, hu, Tryd.ntmps29, Exit.thenS, a2]
  apply wpS_seq
  apply wpS_region
  simp [wpOpsS, go_sem, Exit.thenS, Array.replicate]
  refine wpS_cond (t := false) (by simp [Act.eval, Array.replicate]) ?_
  simp only [Bool.false_eq_true, if_false]
  refine wpS_of_wp (wp_skip ?_)
  cases c₀
  simp_all [bodyPostS, results, Tryd.results29]
def psR (a b : List Nat) : Int × List Pt :=
  if b.length < 20 then (22, [])
  else if b.take 4 ≠ [84, 80, 68, 49] then (21, [])
  else if numN13 ((b.drop (b.length - 4)).take 4) ≠ (crS (b.take (b.length - 4))).toNat then (23, [])
  else if ¬ (numN13 (((b.drop 4).take (b.length - 8)).take 4) = a.length ∧ numN13 ((((b.drop 4).take (b.length - 8)).drop 4).take 4) = (crS a).toNat) then (33, [])
  else match lsP (numN13 ((((b.drop 4).take (b.length - 8)).drop 8).take 4)) ((((b.drop 4).take (b.length - 8)).drop 8).drop 4) with
    | none => (22, [])
    | some (L, r) => if r ≠ [] then (22, []) else if fitB a.length L = true then (0, L) else (33, [])
def StP21 (a b : List Nat) (w0 : World) (B : Nat) (va vb : Value) (N : Nat) (X : World) : Nat → Prop
  | 0 => RS21 w0 B va vb b (.slice none 0 0) X
  | 1 => RS21 w0 B va vb b (.slice none 0 0) X ∧ 20 ≤ b.length
  | 2 => RS21 w0 B va vb b (.slice none 0 0) X ∧ 20 ≤ b.length ∧ b.take 4 = [84, 80, 68, 49]
  | 3 => (∃ vl, RS21 w0 B va vl ((b.drop 4).take (b.length - 8)) (.slice none 0 0) X) ∧ 20 ≤ b.length ∧ b.take 4 = [84, 80, 68, 49] ∧ numN13 ((b.drop (b.length - 4)).take 4) = (crS (b.take (b.length - 4))).toNat
  | 4 => (∃ vl, RS21 w0 B va vl (((b.drop 4).take (b.length - 8)).drop 8) (.slice none 0 0) X) ∧ 20 ≤ b.length ∧ b.take 4 = [84, 80, 68, 49] ∧ numN13 ((b.drop (b.length - 4)).take 4) = (crS (b.take (b.length - 4))).toNat ∧ (numN13 (((b.drop 4).take (b.length - 8)).take 4) = a.length ∧ numN13 ((((b.drop 4).take (b.length - 8)).drop 4).take 4) = (crS a).toNat)
  | 5 => ∃ vl v' L r, RS21 w0 B va vl r v' X ∧ PtN21 N X v' L ∧ (20 ≤ b.length ∧ b.take 4 = [84, 80, 68, 49] ∧ numN13 ((b.drop (b.length - 4)).take 4) = (crS (b.take (b.length - 4))).toNat ∧ (numN13 (((b.drop 4).take (b.length - 8)).take 4) = a.length ∧ numN13 ((((b.drop 4).take (b.length - 8)).drop 4).take 4) = (crS a).toNat)) ∧ lsP (numN13 ((((b.drop 4).take (b.length - 8)).drop 8).take 4)) ((((b.drop 4).take (b.length - 8)).drop 8).drop 4) = some (L, r)
  | 6 => ∃ vl v' L r, RS21 w0 B va vl r v' X ∧ PtN21 N X v' L ∧ (20 ≤ b.length ∧ b.take 4 = [84, 80, 68, 49] ∧ numN13 ((b.drop (b.length - 4)).take 4) = (crS (b.take (b.length - 4))).toNat ∧ (numN13 (((b.drop 4).take (b.length - 8)).take 4) = a.length ∧ numN13 ((((b.drop 4).take (b.length - 8)).drop 4).take 4) = (crS a).toNat)) ∧ lsP (numN13 ((((b.drop 4).take (b.length - 8)).drop 8).take 4)) ((((b.drop 4).take (b.length - 8)).drop 8).drop 4) = some (L, r) ∧ r = []
  | _ => ∃ vl v' L, RS21 w0 B va vl [] v' X ∧ PtN21 N X v' L ∧ psR a b = (0, L)
theorem pcP_len21 {l r : List Nat} {p : Pt} (h : pcP l = some (p, r)) : r.length + 12 ≤ l.length := by
  unfold pcP at h
  split at h
  · cases h
  · split at h
    · cases h
    · injection h with h
      injection h with h1 h2
      rw [← h2, List.length_drop, List.length_drop]
      omega
theorem nn21 {p : Prop} (h : p) : ¬ ¬ p := fun g => g h
theorem lsP_len21 : ∀ (n : Nat) (l : List Nat) (L : List Pt) (r : List Nat), lsP n l = some (L, r) → 12 * L.length + r.length ≤ l.length
  | 0, l, L, r, h => by
    simp only [lsP, Option.some.injEq, Prod.mk.injEq] at h
    obtain ⟨rfl, rfl⟩ := h
    simp
  | n + 1, l, L, r, h => by
    unfold lsP at h
    cases hp : pcP l with
    | none => rw [hp] at h; cases h
    | some q =>
      obtain ⟨p, r1⟩ := q
      rw [hp] at h
      simp only at h
      cases hq : lsP n r1 with
      | none => rw [hq] at h; cases h
      | some q2 =>
        obtain ⟨L2, r2⟩ := q2
        rw [hq] at h
        simp only [Option.some.injEq, Prod.mk.injEq] at h
        obtain ⟨rfl, rfl⟩ := h
        have h1 := pcP_len21 hp
        have h2 := lsP_len21 n r1 L2 r2 hq
        simp only [List.length_cons]
        omega
theorem lsP_len_ok {n : Nat} {b : List Nat} {k1 k2 k3 k4 : Nat} {L : List Pt} {r : List Nat} (h : lsP n ((((b.drop k1).take k2).drop k3).drop k4) = some (L, r)) (hb : b.length ≤ 140737480000000) : L.length ≤ 140737488355328 := by
  have := lsP_len21 _ _ _ _ h
  rw [List.length_drop, List.length_drop, List.length_take, List.length_drop] at this
  omega
structure Rk21 (w0 : World) (B : Nat) (X : World) : Prop where
  b : Below w0.heap.size w0 X
  h : B = w0.heap.size + 2
  l : X.heap[w0.heap.size]? = some (.cells #[.slice none 0 0] 27)
  e : X.heap[w0.heap.size + 1]? = some (.cells #[.int .i64 0] 24)
  r : ∃ T, X.heap[B + 1]? = some (.cells #[.func (.func 30) #[.pointer (some ⟨B, 0, none⟩)] #[], .func (.func 31) #[.pointer (some ⟨B, 0, none⟩)] #[], .func (.func 32) #[.pointer (some ⟨B, 0, none⟩)] #[], .func (.func 33) #[.pointer (some ⟨B, 0, none⟩)] #[], .func (.func 34) #[.pointer (some ⟨B, 0, none⟩)] #[], .func (.func 35) #[.pointer (some ⟨B, 0, none⟩)] #[], .func (.func 36) #[.pointer (some ⟨B, 0, none⟩)] #[]] T)
theorem Rk21.kept {w0 X Y : World} {B : Nat} (h : Rk21 w0 B X) (hk : KR21 B X Y) : Rk21 w0 B Y := by
  have hB := h.h
  have k : ∀ (z : Nat) (o : Obj), X.heap[z]? = some o → z ≠ B → Y.heap[z]? = some o := fun z o h1 h2 => (hk.ot.2 z (lt_16 h1) h2).trans h1
  obtain ⟨T, hr⟩ := h.r
  exact ⟨h.b.trans (hk.lo.mono (by omega)), hB, k _ _ h.l (by omega), k _ _ h.e (by omega), T, k _ _ hr (by omega)⟩
theorem Rk21.below {w0 X Y : World} {B : Nat} (h : Rk21 w0 B X) (hb : Below X.heap.size X Y) : Rk21 w0 B Y := by
  have k : ∀ (z : Nat) (o : Obj), X.heap[z]? = some o → Y.heap[z]? = some o := fun z o h1 => (hb.block z (lt_16 h1)).trans h1
  obtain ⟨T, hr⟩ := h.r
  exact ⟨keepb hb h.b, h.h, k _ _ h.l, k _ _ h.e, T, k _ _ hr⟩
def RdT21 (a b : List Nat) (w : World) (e : Ending) (w' : World) : Prop := ∃ v', e = .returned (.tuple #[v', .int .i64 (psR a b).1]) ∧ PtR21 w' v' (psR a b).2 ∧ Below w.heap.size w w'
theorem PtN21.mono {N M : Nat} {w : World} {v : Value} {L : List Pt} (h : PtN21 M w v L) (hN : N ≤ M) : PtN21 N w v L := fun W hW => h W (fun z h1 h2 => hW z (by omega) h2)
theorem PtN21.below {N : Nat} {w w' : World} {v : Value} {L : List Pt} (h : PtN21 N w v L) (hb : Below w.heap.size w w') : PtN21 N w' v L := fun W hW => h W (fun z h1 h2 => (hW z h1 (by have := hb.size; omega)).trans (hb.block z h2))
theorem door21 (a b : List Nat) (w : World) (B : Nat) (X : World) (E : Int) (tmps : Array Value) (h : Rk21 w B X) (hE : psR a b = (E, [])) (h4 : tmps[4]? = some (.pointer (some ⟨w.heap.size, 0, none⟩))) (h5 : tmps[5]? = some (.pointer (some ⟨w.heap.size + 1, 0, none⟩))) :
    Leaves Tryd.prog Tryd.f22 tmps (fun e w' => RdT21 a b w e w') [{ target := .fn (.func 29) #[.pointer (some ⟨w.heap.size, 0, none⟩), .pointer (some ⟨w.heap.size + 1, 0, none⟩)], args := #[] }] (.panicking (pan21 E)) X := by
  refine leaves_cons (f := 29) (args := #[.pointer (some ⟨w.heap.size, 0, none⟩), .pointer (some ⟨w.heap.size + 1, 0, none⟩)]) (by simp) (by simp [go_sem]) ?_
  refine (catchP21 ⟨w.heap.size, 0, none⟩ ⟨w.heap.size + 1, 0, none⟩ (.slice none 0 0) (.int .i64 0) E [] X (at_16 h.l 0 _ rfl) (fr_16 (j := 0) h.l) (at_16 h.e 0 _ rfl) (fr_16 (j := 0) h.e) (by simp)).mono ?_
  rintro e u' w'' ⟨rfl, rfl, rfl⟩
  have e1 : ((X.setCell ⟨w.heap.size, 0, none⟩ (.slice none 0 0)).setCell ⟨w.heap.size + 1, 0, none⟩ (.int .i64 E)).cell? ⟨w.heap.size, 0, none⟩ = some (.slice none 0 0) := at_16 ((far_16 (by omega)).trans (set_16 (o := 0) h.l (.slice none 0 0))) 0 _ rfl
  have e2 : ((X.setCell ⟨w.heap.size, 0, none⟩ (.slice none 0 0)).setCell ⟨w.heap.size + 1, 0, none⟩ (.int .i64 E)).cell? ⟨w.heap.size + 1, 0, none⟩ = some (.int .i64 E) := at_16 (set_16 (o := 0) ((far_16 (by omega)).trans h.e) (.int .i64 E)) 0 _ rfl
  have hfin : RdT21 a b w (.returned (.tuple #[.slice none 0 0, .int .i64 E])) ((X.setCell ⟨w.heap.size, 0, none⟩ (.slice none 0 0)).setCell ⟨w.heap.size + 1, 0, none⟩ (.int .i64 E)) := by
    refine ⟨.slice none 0 0, by rw [hE], by rw [hE]; exact ⟨none, 0, rfl, Nat.le_refl _, .inl rfl⟩, ?_⟩
    exact (h.b.setCell (p := ⟨w.heap.size, 0, none⟩) (Nat.le_refl _) _).setCell (p := ⟨w.heap.size + 1, 0, none⟩) (show w.heap.size ≤ w.heap.size + 1 by omega) _
  show Leaves _ _ _ _ _ (settle _) _
  simp only [settle, List.dropWhile_nil]
  refine ⟨.tuple #[.slice none 0 0, .int .i64 E], ?_, hfin⟩
  simp [results, Tryd.results22, go_sem, h4, h5, e1, e2]
set_option maxRecDepth 100000 in
set_option maxHeartbeats 32000000 in
theorem read21 (va : Value) (a : List Nat) (vb : Value) (b : List Nat) (w : World) (ha : RwX cB w va a) (hax : ∀ z ∈ a, z < 256) (han : a.length ≤ 140737480000000) (hb : RwX cB w vb b) (hbA : RowA w 1 vb b.length (b.map cB)) (hbx : ∀ z ∈ b, z < 256) (hbn : b.length ≤ 140737480000000) (hT : Hf w) :
    Calls Tryd.prog 22 #[va, vb] w fun e w' => RdT21 a b w e w' := by
  have hmf : ∀ (fn : Fn) (first cap : Array Value) (w : World), (Instr.makeFunc fn first cap).run Tryd.prog w = .ok (.func fn first cap) w := fun _ _ _ _ => rfl
  obtain ⟨ao, ac, hva, -⟩ := id ha
  obtain ⟨bo, bc, hvb, -⟩ := id hb
  subst hva hvb
  have HA : Hid (RwX cB w (.slice ao a.length ac) a ∧ (∀ z ∈ a, z < 256) ∧ a.length ≤ 140737480000000) := ⟨ha, hax, han⟩
  have HB : Hid (RwX cB w (.slice bo b.length bc) b ∧ RowA w 1 (.slice bo b.length bc) b.length (b.map cB) ∧ (∀ z ∈ b, z < 256) ∧ b.length ≤ 140737480000000) := ⟨hb, hbA, hbx, hbn⟩
  have HT := hid13 hT
  obtain ⟨B, hB⟩ : ∃ B, B = w.heap.size + 1 + 1 := ⟨_, rfl⟩
  have q1 := bl1 w (.cells #[.slice none 0 0] 27)
  obtain ⟨w1, hw1⟩ : ∃ w1, w1 = w.alloc (.cells #[.slice none 0 0] 27) := ⟨_, rfl⟩
  have s1 : w1.heap.size = w.heap.size + 1 := by rw [hw1]; simp
  have l1 : w1.heap[w.heap.size]? = some (.cells #[.slice none 0 0] 27) := by rw [hw1]; exact new_16 _ _
  rw [← hw1] at q1
  have q2 := bl1 w1 (.cells #[.int .i64 0] 24)
  obtain ⟨w2, hw2⟩ : ∃ w2, w2 = w1.alloc (.cells #[.int .i64 0] 24) := ⟨_, rfl⟩
  have s2 : w2.heap.size = B := by rw [hw2, hB, ← s1]; simp
  have e2 : w2.heap[w.heap.size + 1]? = some (.cells #[.int .i64 0] 24) := by rw [hw2, ← s1]; exact new_16 _ _
  rw [← hw2] at q2
  have q3 := bl1 w2 (.cells #[.slice ao a.length ac, .slice bo b.length bc, .slice none 0 0] 60)
  obtain ⟨w3, hw3⟩ : ∃ w3, w3 = w2.alloc (.cells #[.slice ao a.length ac, .slice bo b.length bc, .slice none 0 0] 60) := ⟨_, rfl⟩
  have s3 : w3.heap.size = B + 1 := by rw [hw3, ← s2]; simp
  have r3 : w3.heap[B]? = some (.cells #[.slice ao a.length ac, .slice bo b.length bc, .slice none 0 0] 60) := by rw [hw3, ← s2]; exact new_16 _ _
  rw [← hw3] at q3
  have q4 := bl1 w3 (.cells #[.func (.func 30) #[.pointer (some ⟨B, 0, none⟩)] #[], .func (.func 31) #[.pointer (some ⟨B, 0, none⟩)] #[], .func (.func 32) #[.pointer (some ⟨B, 0, none⟩)] #[], .func (.func 33) #[.pointer (some ⟨B, 0, none⟩)] #[], .func (.func 34) #[.pointer (some ⟨B, 0, none⟩)] #[], .func (.func 35) #[.pointer (some ⟨B, 0, none⟩)] #[], .func (.func 36) #[.pointer (some ⟨B, 0, none⟩)] #[]] 1)
  obtain ⟨w4, hw4⟩ : ∃ w4, w4 = w3.alloc (.cells #[.func (.func 30) #[.pointer (some ⟨B, 0, none⟩)] #[], .func (.func 31) #[.pointer (some ⟨B, 0, none⟩)] #[], .func (.func 32) #[.pointer (some ⟨B, 0, none⟩)] #[], .func (.func 33) #[.pointer (some ⟨B, 0, none⟩)] #[], .func (.func 34) #[.pointer (some ⟨B, 0, none⟩)] #[], .func (.func 35) #[.pointer (some ⟨B, 0, none⟩)] #[], .func (.func 36) #[.pointer (some ⟨B, 0, none⟩)] #[]] 1) := ⟨_, rfl⟩
  have s4 : w4.heap.size = B + 2 := by rw [hw4, ← Nat.add_assoc B 1 1, ← s3]; simp
  have r4 : w4.heap[B + 1]? = some (.cells #[.func (.func 30) #[.pointer (some ⟨B, 0, none⟩)] #[], .func (.func 31) #[.pointer (some ⟨B, 0, none⟩)] #[], .func (.func 32) #[.pointer (some ⟨B, 0, none⟩)] #[], .func (.func 33) #[.pointer (some ⟨B, 0, none⟩)] #[], .func (.func 34) #[.pointer (some ⟨B, 0, none⟩)] #[], .func (.func 35) #[.pointer (some ⟨B, 0, none⟩)] #[], .func (.func 36) #[.pointer (some ⟨B, 0, none⟩)] #[]] 1) := by rw [hw4, ← s3]; exact new_16 _ _
  rw [← hw4] at q4
  have k1 : ∀ (z : Nat) (o : Obj), w1.heap[z]? = some o → w2.heap[z]? = some o := fun z o h => (q2.block z (lt_16 h)).trans h
  have k2 : ∀ (z : Nat) (o : Obj), w2.heap[z]? = some o → w3.heap[z]? = some o := fun z o h => (q3.block z (lt_16 h)).trans h
  have k3 : ∀ (z : Nat) (o : Obj), w3.heap[z]? = some o → w4.heap[z]? = some o := fun z o h => (q4.block z (lt_16 h)).trans h
  have HRk : Hid (Rk21 w B w4) := ⟨keepb q4 (keepb q3 (keepb q2 q1)), hB, k3 _ _ (k2 _ _ (k1 _ _ l1)), k3 _ _ (k2 _ _ e2), _, r4⟩
  have HR0 : Hid (RS21 w B (.slice ao a.length ac) (.slice bo b.length bc) b (.slice none 0 0) w4) := ⟨HRk.out.b, by omega, k3 _ _ r3, hb, hbA, hbx, hbn⟩
  have HW : Hid ((((w.alloc (.cells #[.slice none 0 0] 27)).alloc (.cells #[.int .i64 0] 24)).alloc (.cells #[.slice ao a.length ac, .slice bo b.length bc, .slice none 0 0] 60)).alloc (.cells #[.func (.func 30) #[.pointer (some ⟨B, 0, none⟩)] #[], .func (.func 31) #[.pointer (some ⟨B, 0, none⟩)] #[], .func (.func 32) #[.pointer (some ⟨B, 0, none⟩)] #[], .func (.func 33) #[.pointer (some ⟨B, 0, none⟩)] #[], .func (.func 34) #[.pointer (some ⟨B, 0, none⟩)] #[], .func (.func 35) #[.pointer (some ⟨B, 0, none⟩)] #[], .func (.func 36) #[.pointer (some ⟨B, 0, none⟩)] #[]] 1) = w4) := by show _ = _; rw [hw4, hw3, hw2, hw1]
  have HBe : Hid (w.heap.size + 1 + 1 = B) := hB.symm
  have HS4 := hid13 s4
  clear ha hax han hb hbA hbx hbn hT hB q1 hw1 s1 l1 q2 hw2 s2 e2 q3 hw3 s3 r3 q4 hw4 s4 r4 k1 k2 k3
  go_enter_defers Tryd.func22, Tryd.ntmps22
  go_wp2
  rw [HBe.out, HW.out]
  clear HW
  go_loopg [30] 7 (fun g x X => ∃ (i : Nat), i + g = 7 ∧ x = .int .i64 (i : Int) ∧ Hid (StP21 a b w B (.slice ao a.length ac) (.slice bo b.length bc) (B + 2) X i) ∧ Hid (Rk21 w B X))
  case atStart => exact ⟨0, rfl, rfl, HR0.out, HRk.out⟩
  case round =>
    clear HR0 HRk
    obtain ⟨i, hi, rfl, HSt, HRk⟩ := hrel
    obtain ⟨T4, hr4⟩ := HRk.out.r
    have hi7 : i = 0 ∨ i = 1 ∨ i = 2 ∨ i = 3 ∨ i = 4 ∨ i = 5 ∨ i = 6 ∨ i = 7 := by omega
    rcases hi7 with rfl | rfl | rfl | rfl | rfl | rfl | rfl | rfl
    all_goals (have HG := hid13 hi; clear hi)
    · have c0 := at_16 hr4 0 _ rfl
      clear hr4
      go_wp2_with fail
      refine (sizeS21 w B _ _ b _ wr HSt.out).mono ?_
      rintro e w1 ⟨rfl, hw1⟩
      replace hw1 := hw1.symm
      subst hw1
      by_cases h20 : 20 ≤ b.length
      · rw [if_pos h20]
        have HN : Hid (StP21 a b w B (.slice ao a.length ac) (.slice bo b.length bc) (B + 2) wr 1) := ⟨HSt.out, h20⟩
        clear HSt c0 h20
        go_wp2
        go_roundg 6
        case measure => have := HG.out; omega
        case rel => exact ⟨1, rfl, rfl, HN, HRk⟩
      · rw [if_neg h20]
        have hE : psR a b = (22, []) := by unfold psR; rw [if_pos (by omega)]
        exact door21 a b w B wr 22 _ HRk.out hE rfl rfl
    · have c1 := at_16 hr4 1 _ rfl
      clear hr4
      go_wp2_with fail
      have HH := hid13 HSt.out
      refine (magicS21 w B _ _ b _ wr HSt.out.1 (by have := HSt.out.2; omega)).mono ?_
      rintro e w1 ⟨rfl, hw1⟩
      replace hw1 := hw1.symm
      subst hw1
      by_cases hm : b.take 4 = [84, 80, 68, 49]
      · rw [if_pos hm]
        have HN : Hid (StP21 a b w B (.slice ao a.length ac) (.slice bo b.length bc) (B + 2) wr 2) := ⟨HSt.out.1, HSt.out.2, hm⟩
        clear HSt c1 hm HH
        go_wp2
        go_roundg 5
        case measure => have := HG.out; omega
        case rel => exact ⟨2, rfl, rfl, HN, HRk⟩
      · rw [if_neg hm]
        have hE : psR a b = (21, []) := by
          unfold psR
          rw [if_neg (by have := HSt.out.2; omega : ¬ b.length < 20), if_pos hm]
        exact door21 a b w B wr 21 _ HRk.out hE rfl rfl
    · have c2 := at_16 hr4 2 _ rfl
      clear hr4
      go_wp2_with fail
      refine (sumS21 w B _ _ b _ wr HSt.out.1 HSt.out.2.1 (HT.out.below HRk.out.b)).mono ?_
      intro e w1 hq
      unfold SmQ21 at hq
      by_cases hm : numN13 ((b.drop (b.length - 4)).take 4) = (crS (b.take (b.length - 4))).toNat
      · rw [if_pos hm] at hq
        obtain ⟨rfl, hvl, hk⟩ := hq
        have HN : Hid (StP21 a b w B (.slice ao a.length ac) (.slice bo b.length bc) (B + 2) w1 3) := ⟨hvl, HSt.out.2.1, HSt.out.2.2, hm⟩
        have HK := hid13 (HRk.out.kept hk)
        clear HSt c2 hm hvl hk HRk
        go_wp2
        go_roundg 4
        case measure => have := HG.out; omega
        case rel => exact ⟨3, rfl, rfl, HN, HK⟩
      · rw [if_neg hm] at hq
        obtain ⟨rfl, hk⟩ := hq
        have hE : psR a b = (23, []) := by
          unfold psR
          rw [if_neg (by have := HSt.out.2.1; omega : ¬ b.length < 20), if_neg (nn21 HSt.out.2.2), if_pos hm]
        exact door21 a b w B w1 23 _ (HRk.out.kept hk) hE rfl rfl
    · have c3 := at_16 hr4 3 _ rfl
      clear hr4
      go_wp2_with fail
      obtain ⟨⟨vl, hs⟩, h20, hmg, hsm⟩ := HSt.out
      have HH : Hid (20 ≤ b.length ∧ b.take 4 = [84, 80, 68, 49] ∧ numN13 ((b.drop (b.length - 4)).take 4) = (crS (b.take (b.length - 4))).toNat) := ⟨h20, hmg, hsm⟩
      have h8 : 8 ≤ ((b.drop 4).take (b.length - 8)).length := by rw [List.length_take, List.length_drop]; omega
      refine (ownerS21 w B _ a vl _ _ wr hs h8 HA.out.1 HA.out.2.1 HA.out.2.2 (HT.out.below HRk.out.b) (fun X hX => HT.out.below (HRk.out.kept hX).b)).mono ?_
      intro e w1 hq
      unfold OwQ21 at hq
      clear hs h20 hmg hsm h8
      by_cases hm : numN13 (((b.drop 4).take (b.length - 8)).take 4) = a.length ∧ numN13 ((((b.drop 4).take (b.length - 8)).drop 4).take 4) = (crS a).toNat
      · rw [if_pos hm] at hq
        obtain ⟨rfl, hvl, hk⟩ := hq
        have HN : Hid (StP21 a b w B (.slice ao a.length ac) (.slice bo b.length bc) (B + 2) w1 4) := ⟨hvl, HH.out.1, HH.out.2.1, HH.out.2.2, hm⟩
        have HK := hid13 (HRk.out.kept hk)
        clear HSt c3 hm hvl hk HRk
        go_wp2
        go_roundg 3
        case measure => have := HG.out; omega
        case rel => exact ⟨4, rfl, rfl, HN, HK⟩
      · rw [if_neg hm] at hq
        obtain ⟨rfl, hk⟩ := hq
        have hE : psR a b = (33, []) := by
          unfold psR
          rw [if_neg (by have := HH.out.1; omega : ¬ b.length < 20), if_neg (nn21 HH.out.2.1), if_neg (nn21 HH.out.2.2), if_pos hm]
        exact door21 a b w B w1 33 _ (HRk.out.kept hk) hE rfl rfl
    · have c4 := at_16 hr4 4 _ rfl
      clear hr4
      go_wp2_with fail
      obtain ⟨⟨vl, hs⟩, h20, hmg, hsm, how⟩ := HSt.out
      have HH : Hid (20 ≤ b.length ∧ b.take 4 = [84, 80, 68, 49] ∧ numN13 ((b.drop (b.length - 4)).take 4) = (crS (b.take (b.length - 4))).toNat ∧ (numN13 (((b.drop 4).take (b.length - 8)).take 4) = a.length ∧ numN13 ((((b.drop 4).take (b.length - 8)).drop 4).take 4) = (crS a).toNat)) := ⟨h20, hmg, hsm, how⟩
      have h4 : 4 ≤ (((b.drop 4).take (b.length - 8)).drop 8).length := by rw [List.length_drop, List.length_take, List.length_drop]; omega
      have HBz : Hid (B + 2 ≤ wr.heap.size) := by
        have := lt_16 hs.c
        obtain ⟨T, hr⟩ := HRk.out.r
        have := lt_16 hr
        show _ ≤ _
        omega
      refine (listS21 w B _ vl _ _ wr hs h4).mono ?_
      intro e w1 hq
      clear hs h20 hmg hsm how h4
      rcases hq with ⟨L, r, vl', v', hls, rfl, hpt, hs', hk⟩ | ⟨hls, rfl, hk⟩
      · have HN : Hid (StP21 a b w B (.slice ao a.length ac) (.slice bo b.length bc) (B + 2) w1 5) := ⟨vl', v', L, r, hs', hpt.mono HBz.out, HH.out, hls⟩
        have HK := hid13 (HRk.out.kept hk)
        clear HSt c4 hls hpt hs' hk HRk HBz
        go_wp2
        go_roundg 2
        case measure => have := HG.out; omega
        case rel => exact ⟨5, rfl, rfl, HN, HK⟩
      · have hE : psR a b = (22, []) := by
          unfold psR
          rw [if_neg (by have := HH.out.1; omega : ¬ b.length < 20), if_neg (nn21 HH.out.2.1), if_neg (nn21 HH.out.2.2.1), if_neg (nn21 HH.out.2.2.2), hls]
        exact door21 a b w B w1 22 _ (HRk.out.kept hk) hE rfl rfl
    · have c5 := at_16 hr4 5 _ rfl
      clear hr4
      go_wp2_with fail
      obtain ⟨vl, v', L, r, hs, hpt, hh, hls⟩ := HSt.out
      have HH := hid13 hh
      have HLs := hid13 hls
      refine (endS21 w B _ vl r v' wr hs).mono ?_
      rintro e w1 ⟨rfl, hw1⟩
      replace hw1 := hw1.symm
      subst hw1
      by_cases hr : r = []
      · rw [if_pos hr]
        have HN : Hid (StP21 a b w B (.slice ao a.length ac) (.slice bo b.length bc) (B + 2) wr 6) := ⟨vl, v', L, r, hs, hpt, hh, hls, hr⟩
        clear HSt c5 hs hpt hh hls hr HH HLs
        go_wp2
        go_roundg 1
        case measure => have := HG.out; omega
        case rel => exact ⟨6, rfl, rfl, HN, HRk⟩
      · rw [if_neg hr]
        have hE : psR a b = (22, []) := by
          unfold psR
          rw [if_neg (by have := HH.out.1; omega : ¬ b.length < 20), if_neg (nn21 HH.out.2.1), if_neg (nn21 HH.out.2.2.1), if_neg (nn21 HH.out.2.2.2), HLs.out]
          simp only
          rw [if_pos hr]
        exact door21 a b w B wr 22 _ HRk.out hE rfl rfl
    · have c6 := at_16 hr4 6 _ rfl
      clear hr4
      go_wp2_with fail
      obtain ⟨vl, v', L, r, hs, hpt, hh, hls, hr⟩ := HSt.out
      subst hr
      have HH := hid13 hh
      have HLs := hid13 hls
      have hll : L.length ≤ 140737488355328 := lsP_len_ok hls HB.out.2.2.2
      refine (fitS21 w B _ a vl [] v' L wr hs HA.out.1 HA.out.2.2 (hpt wr (fun _ _ _ => rfl)) hll).mono ?_
      rintro e w1 ⟨rfl, hb1⟩
      by_cases hf : fitB a.length L = true
      · rw [if_pos hf]
        have hE : psR a b = (0, L) := by
          unfold psR
          rw [if_neg (by have := HH.out.1; omega : ¬ b.length < 20), if_neg (nn21 HH.out.2.1), if_neg (nn21 HH.out.2.2.1), if_neg (nn21 HH.out.2.2.2), HLs.out]
          simp only
          rw [if_neg (nn21 rfl), if_pos hf]
        have HN : Hid (StP21 a b w B (.slice ao a.length ac) (.slice bo b.length bc) (B + 2) w1 7) := ⟨vl, v', L, hs.below hb1, hpt.below hb1, hE⟩
        have HK := hid13 (HRk.out.below hb1)
        clear HSt c6 hs hpt hh hls hf HH HLs hE hb1 HRk hll
        go_wp2
        go_roundg 0
        case measure => have := HG.out; omega
        case rel => exact ⟨7, rfl, rfl, HN, HK⟩
      · rw [if_neg hf]
        have hE : psR a b = (33, []) := by
          unfold psR
          rw [if_neg (by have := HH.out.1; omega : ¬ b.length < 20), if_neg (nn21 HH.out.2.1), if_neg (nn21 HH.out.2.2.1), if_neg (nn21 HH.out.2.2.2), HLs.out]
          simp only
          rw [if_neg (nn21 rfl), if_neg hf]
        exact door21 a b w B w1 33 _ (HRk.out.below hb1) hE rfl rfl
    · obtain ⟨vl, v', L, hs, hpt, hE⟩ := HSt.out
      have hpt0 := hpt wr (fun _ _ _ => rfl)
      obtain ⟨po, pc, hv'⟩ : ∃ o c, v' = .slice o L.length c := by obtain ⟨o, c, hh, -⟩ := hpt0; exact ⟨o, c, hh⟩
      subst hv'
      have z2 := at_16 hs.c 2 _ rfl
      have y0 := at_16 HRk.out.l 0 _ rfl
      have g0 := fr_16 (j := 0) HRk.out.l
      have y1 := at_16 HRk.out.e 0 _ rfl
      have g1 := fr_16 (j := 0) HRk.out.e
      have HE := hid13 hE
      have HPt := hid13 hpt
      have HBe2 := hid13 HRk.out.h
      clear HSt hs hpt hpt0 hE hr4
      go_wp2
      refine leaves_cons (f := 29) (args := #[.pointer (some ⟨w.heap.size, 0, none⟩), .pointer (some ⟨w.heap.size + 1, 0, none⟩)]) (by simp) (by simp [go_sem]) ?_
      refine (catchI21 _ _ _).mono ?_
      rintro e u' w'' ⟨rfl, rfl, rfl⟩
      show Leaves _ _ _ _ _ (settle _) _
      simp only [settle]
      have e1 : ((wr.setCell ⟨w.heap.size, 0, none⟩ (.slice po L.length pc)).setCell ⟨w.heap.size + 1, 0, none⟩ (.int .i64 0)).cell? ⟨w.heap.size, 0, none⟩ = some (.slice po L.length pc) := at_16 ((far_16 (by omega)).trans (set_16 (o := 0) HRk.out.l (.slice po L.length pc))) 0 _ rfl
      have e2 : ((wr.setCell ⟨w.heap.size, 0, none⟩ (.slice po L.length pc)).setCell ⟨w.heap.size + 1, 0, none⟩ (.int .i64 0)).cell? ⟨w.heap.size + 1, 0, none⟩ = some (.int .i64 0) := at_16 (set_16 (o := 0) ((far_16 (by omega)).trans HRk.out.e) (.int .i64 0)) 0 _ rfl
      refine ⟨.tuple #[.slice po L.length pc, .int .i64 0], ?_, ?_⟩
      · simp [results, Tryd.results22, go_sem, e1, e2]
      · refine ⟨.slice po L.length pc, by rw [HE.out], ?_, ?_⟩
        · rw [HE.out]
          exact HPt.out _ (fun z h1 h2 => (far_16 (by have := HBe2.out; omega)).trans (far_16 (by have := HBe2.out; omega)))
        · exact (HRk.out.b.setCell (p := ⟨w.heap.size, 0, none⟩) (Nat.le_refl _) _).setCell (p := ⟨w.heap.size + 1, 0, none⟩) (show w.heap.size ≤ w.heap.size + 1 by omega) _
theorem parse21 (va : Value) (a : List Nat) (vb : Value) (b : List Nat) (w : World) (ha : RwX cB w va a) (hax : ∀ z ∈ a, z < 256) (han : a.length ≤ 140737480000000) (hb : RwX cB w vb b) (hbA : RowA w 1 vb b.length (b.map cB)) (hbx : ∀ z ∈ b, z < 256) (hbn : b.length ≤ 140737480000000) (hT : Hf w) :
    Calls Tryd.prog 11 #[va, vb] w fun e w' => RdT21 a b w e w' := by
  have K1 := read21 va a vb b w ha hax han hb hbA hbx hbn hT
  obtain ⟨ao, ac, hva, -⟩ := id ha
  obtain ⟨bo, bc, hvb, -⟩ := id hb
  subst hva hvb
  clear ha hax han hb hbA hbx hbn hT
  go_enter Tryd.func11, Tryd.ntmps11
  go_wp2_with fail
  refine K1.mono ?_
  rintro e w1 ⟨v', rfl, hp, hb1⟩
  obtain ⟨po, pc, hv'⟩ : ∃ o c, v' = .slice o (psR a b).2.length c := by obtain ⟨o, c, hh, -⟩ := hp; exact ⟨o, c, hh⟩
  have HP := hid13 (And.intro hp hb1)
  clear K1 hp hb1 hv'
  go_wp2
  exact bodyPost_ret (v := .tuple #[v', .int .i64 (psR a b).1]) (by simp [results, Tryd.results11, go_sem]) rfl ⟨v', rfl, HP.out.1, HP.out.2⟩
end Go.Proofs.YtiachojhnbicaabDoor
namespace Go.Proofs.YtiachojhnbicaabDoor
open Go.RowKit
set_option linter.unusedSimpArgs false
set_option linter.unusedVariables false

theorem byX2 (c : BitVec 32) (b : Nat) (h : b < 256) : bits .xor .u32 (uI c) (b : Int) = uI (c ^^^ BitVec.ofNat 32 b) := by
  rw [← xor32, uI_of b (by omega)]
set_option maxRecDepth 100000 in
set_option maxHeartbeats 4000000 in
theorem rstep13 (c : BitVec 32) (b : Nat) (hb : b < 256) (w : World) :
    Calls Tryd.prog 19 #[.int .u32 (uI c), .int .u8 (b : Int)] w fun e w' => e = .returned (.int .u32 (uI (stp c b))) ∧ w' = w := by
  have hx := byX2 c b hb
  have hbi : ((b : Nat) : Int) < 256 := by omega
  obtain ⟨X, hX⟩ : ∃ X, X = c ^^^ BitVec.ofNat 32 b := ⟨_, rfl⟩
  have HS : Hid (stp c b = hbN 8 X) := by show _ = _; rw [hX]; rfl
  rw [← hX] at hx
  clear hX hb
  go_enter Tryd.func19, Tryd.ntmps19
  go_wp2_with fail
  clear hx
  go_loopg [0, 5, 6] 8 (fun k a i o wr => wr = w ∧ ∃ (C : BitVec 32) (j : Nat), j + k = 8 ∧ a = .int .u32 (uI C) ∧ i = .int .i64 (j : Int) ∧ Hid (hbN k C = hbN 8 X))
  case atStart => exact ⟨rfl, X, 0, rfl, rfl, rfl, rfl⟩
  case round =>
    obtain ⟨rfl, C, j, hk, rfl, rfl, HC⟩ := hrel
    by_cases hj : j < 8
    · have hji : (j : Int) < 8 := by omega
      obtain ⟨g, rfl⟩ : ∃ g, gk = g + 1 := ⟨gk - 1, by omega⟩
      have h1 := odd32 C
      have h2 := half32 C
      have mk : IntKind.i64.wrap ((j : Int) + 1) = (j : Int) + 1 := by rw [IntKind.wrap_i64]; omega
      have HN : Hid (hbN g (hb C) = hbN 8 X) := HC.out
      have HJ : Hid (j + 1 + g = 8) := by show j + 1 + g = 8; omega
      clear HC hk hj
      cases c : C.getLsbD 0
      · rw [hb_even C c] at HN
        rw [c] at h1
        simp only [Bool.false_eq_true, if_false] at h1
        clear c
        go_wp2_with fail
        go_roundg g
        case measure => omega
        case rel => exact ⟨rfl, _, j + 1, HJ.out, rfl, rfl, HN⟩
      · rw [hb_odd C c] at HN
        rw [c] at h1
        simp only [if_true] at h1
        have h3 := xorM (C >>> 1)
        clear c
        go_wp2_with fail
        go_roundg g
        case measure => omega
        case rel => exact ⟨rfl, _, j + 1, HJ.out, rfl, rfl, HN⟩
    · have hji : ¬ (j : Int) < 8 := by omega
      obtain rfl : gk = 0 := by omega
      have HN : Hid (C = hbN 8 X) := HC.out
      go_wp2_with fail
      go_ret
      exact ⟨congrArg Ending.returned (congrArg (Value.int .u32) (congrArg uI (HN.out.trans HS.out.symm))), rfl⟩
end Go.Proofs.YtiachojhnbicaabDoor
namespace Go.Proofs.YtiachojhnbicaabDoor
open Go.RowKit
set_option linter.unusedSimpArgs false
set_option linter.unusedVariables false

theorem rsum13 (v : Value) (l : List Nat) (w : World) (hv : RwX cB w v l) (hl : l.length ≤ 9223372036854775806) (hx : ∀ b ∈ l, b < 256) :
    Calls Tryd.prog 9 #[v] w fun e w' => e = .returned (.int .u32 (uI (crS l))) ∧ w' = w := by
  obtain ⟨ao, cc, rfl, hc, hv⟩ := hv
  have HV := hid13 hv
  have HX := hid13 hx
  have HL := hid13 hl
  clear hv hc hl hx
  go_enter Tryd.func9, Tryd.ntmps9
  go_wp2_with fail
  go_loopg [3, 4] l.length (fun g a i wr => wr = w ∧ ∃ (k : Nat) (C : BitVec 32), k + g = l.length ∧ a = .int .u32 (uI C) ∧ i = .int .i64 (k : Int) ∧ Hid (crF C (l.drop k) = crF (BitVec.allOnes 32) l))
  case atStart =>
    refine ⟨rfl, 0, BitVec.allOnes 32, by omega, ?_, rfl, rfl⟩
    exact congrArg (Value.int .u32) (by rw [uI_eq]; decide)
  case round =>
    obtain ⟨rfl, k, C, hk, rfl, rfl, HC⟩ := hrel
    by_cases hlt : k < l.length
    · have hli : (k : Int) < (l.length : Int) := by omega
      obtain ⟨bo, off, rfl, hcell⟩ : ∃ bo off, ao = some ⟨bo, off, none⟩ ∧ ∀ j x, l[j]? = some x → wr.cell? ⟨bo, off + j, none⟩ = some (cB x) := by
        rcases HV.out with h | h
        · rw [h] at hlt; simp at hlt
        · exact h
      obtain ⟨q, hq⟩ : ∃ q, q = l[k] := ⟨_, rfl⟩
      have hrd : wr.cell? ⟨bo, off + k, none⟩ = some (.int .u8 (q : Int)) := hcell k q (by rw [hq]; simp [hlt])
      have HE : Hid (crF (stp C q) (l.drop (k + 1)) = crF (BitVec.allOnes 32) l) := hid13 (by rw [hq, ← crF_at hlt]; exact HC.out)
      have KS := fun W => rstep13 C q (HX.out q (by rw [hq]; exact List.getElem_mem hlt)) W
      have mk : IntKind.i64.wrap ((k : Int) + 1) = (k : Int) + 1 := by have := HL.out; rw [IntKind.wrap_i64]; omega
      have HK : Hid (k + gk = l.length ∧ k < l.length) := ⟨hk, hlt⟩
      clear hq hcell HC hk hlt
      go_wp2_with (go_at_call 19; refine (KS _).mono ?_; rintro e w1 ⟨rfl, hw1⟩; replace hw1 := hw1.symm; subst hw1)
      go_roundg (gk - 1)
      case measure => have := HK.out; omega
      case rel => exact ⟨rfl, k + 1, _, by have := HK.out; omega, rfl, rfl, HE⟩
    · have hli : ¬ (k : Int) < (l.length : Int) := by omega
      have HE : Hid (~~~ C = crS l) := hid13 (by
        have := HC.out
        rw [List.drop_eq_nil_of_le (by omega), crF_nil] at this
        show ~~~ C = crS _
        unfold crS
        rw [this])
      have hn := notU C
      go_wp2_with fail
      go_ret
      exact ⟨congrArg Ending.returned (congrArg (Value.int .u32) (by first | exact congrArg uI HE.out | (rw [← HE.out]; exact hn))), rfl⟩
end Go.Proofs.YtiachojhnbicaabDoor
