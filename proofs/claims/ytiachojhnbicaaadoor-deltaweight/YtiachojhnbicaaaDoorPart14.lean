/-
  Part 14 of the proof: 4 texts, one behind the other.
-/
import Derived.Test.YtiachojhnbicaaaDoorPart10
import Derived.Test.YtiachojhnbicaaaDoorPart12
import Derived.Test.YtiachojhnbicaaaDoorPart13
import Derived.Recover
import Derived.Test.YtiachojhnbicaaaDoorPart1
import Derived.Test.YtiachojhnbicaaaDoorPart2
import Derived.Test.YtiachojhnbicaaaDoorPart5
import Derived.Lib.SmallJoins
namespace Go.Proofs.YtiachojhnbicaaaDoor
open Go.RowKit Go.Shelf
set_option linter.unusedSimpArgs false
set_option linter.unusedVariables false
attribute [local go_sem] Oper.semAt_some

theorem asE21 (v : Value) (W : World) : (Instr.typeAssert (.iface 27 v) 20 27 true).run Tryd.prog W = .ok (.tuple #[v, .bool true]) W := by kernel_rfl
theorem asN21 (W : World) : (Instr.typeAssert .nilIface 20 27 true).run Tryd.prog W = .ok (.tuple #[.int .i64 0, .bool false]) W := by kernel_rfl
theorem catchP21 (p q : Addr) (x y : Value) (E : Int) (older : List PanicEntry) (w : World) (hc : w.cell? p = some x) (hz : w.frozen? p = false) (hc2 : w.cell? q = some y) (hz2 : w.frozen? q = false) (hne : p ≠ q) :
    CallsD Tryd.prog 36 #[.pointer (some p), .pointer (some q)] (.panicking ({ v := .iface 27 (.int .i64 E), recovered := false } :: older)) w fun e u' w' =>
      e = .returned (.tuple #[]) ∧ u' = .panicking ({ v := .iface 27 (.int .i64 E), recovered := true } :: older) ∧ w' = (w.setCell p (.slice none 0 0)).setCell q (.int .i64 E) := by
  have a1 := asE21
  refine callsD_of_wpS Tryd.func36 rfl fun c₀ cs hu => ?_
  apply wpS_seq
  apply wpS_region
  simp [wpOpsS, go_sem, recoverD, hu, Tryd.ntmps36, Exit.thenS, a1]
  apply wpS_seq
  apply wpS_region
  simp [wpOpsS, go_sem, Exit.thenS, Array.replicate]
  refine wpS_cond (t := true) (by simp [Act.eval, Array.replicate]) ?_
  simp only [if_true]
  apply wpS_region
  simp [wpOpsS, go_sem, hc, hz, hc2, hz2, World.cell?_setCell_other, World.frozen?_setCell, bodyPostS, results, Tryd.results36, hne, Array.replicate]
theorem catchI21 (p q : Addr) (w : World) :
    CallsD Tryd.prog 36 #[.pointer (some p), .pointer (some q)] .returning w fun e u' w' => e = .returned (.tuple #[]) ∧ u' = .returning ∧ w' = w := by
  have a2 := asN21
  refine callsD_of_wpS Tryd.func36 rfl fun c₀ cs hu => ?_
  apply wpS_seq
  apply wpS_region
  simp [wpOpsS, go_sem, recoverD, hu, Tryd.ntmps36, Exit.thenS, a2]
  apply wpS_seq
  apply wpS_region
  simp [wpOpsS, go_sem, Exit.thenS, Array.replicate]
  refine wpS_cond (t := false) (by simp [Act.eval, Array.replicate]) ?_
  simp only [Bool.false_eq_true, if_false]
  refine wpS_of_wp (wp_skip ?_)
  cases c₀
  simp_all [bodyPostS, results, Tryd.results36]
def psR (a b : List Nat) : Int × List Pt :=
  if b.length < 20 then (22, [])
  else if b.take 4 ≠ [84, 80, 68, 49] then (21, [])
  else if numN13 ((b.drop (b.length - 4)).take 4) ≠ (crS (b.take (b.length - 4))).toNat then (23, [])
  else if ¬ (numN13 (((b.drop 4).take (b.length - 8)).take 4) = a.length ∧ numN13 ((((b.drop 4).take (b.length - 8)).drop 4).take 4) = (crS a).toNat) then (33, [])
  else match lsP (numN13 ((((b.drop 4).take (b.length - 8)).drop 8).take 4)) ((((b.drop 4).take (b.length - 8)).drop 8).drop 4) with
    | none => (22, [])
    | some (L, r) => if r ≠ [] then (22, []) else if fitB a.length L = true then (0, L) else (33, [])
def StP21 (a b : List Nat) (w0 : World) (B : Nat) (va vb : Value) (N : Nat) (X : World) : Nat → Prop
  | 0 => RS21 w0 B va vb b (.slice none 0 0) X
  | 1 => RS21 w0 B va vb b (.slice none 0 0) X ∧ 20 ≤ b.length
  | 2 => RS21 w0 B va vb b (.slice none 0 0) X ∧ 20 ≤ b.length ∧ b.take 4 = [84, 80, 68, 49]
  | 3 => (∃ vl, RS21 w0 B va vl ((b.drop 4).take (b.length - 8)) (.slice none 0 0) X) ∧ 20 ≤ b.length ∧ b.take 4 = [84, 80, 68, 49] ∧ numN13 ((b.drop (b.length - 4)).take 4) = (crS (b.take (b.length - 4))).toNat
  | 4 => (∃ vl, RS21 w0 B va vl (((b.drop 4).take (b.length - 8)).drop 8) (.slice none 0 0) X) ∧ 20 ≤ b.length ∧ b.take 4 = [84, 80, 68, 49] ∧ numN13 ((b.drop (b.length - 4)).take 4) = (crS (b.take (b.length - 4))).toNat ∧ (numN13 (((b.drop 4).take (b.length - 8)).take 4) = a.length ∧ numN13 ((((b.drop 4).take (b.length - 8)).drop 4).take 4) = (crS a).toNat)
  | 5 => ∃ vl v' L r, RS21 w0 B va vl r v' X ∧ PtN21 N X v' L ∧ (20 ≤ b.length ∧ b.take 4 = [84, 80, 68, 49] ∧ numN13 ((b.drop (b.length - 4)).take 4) = (crS (b.take (b.length - 4))).toNat ∧ (numN13 (((b.drop 4).take (b.length - 8)).take 4) = a.length ∧ numN13 ((((b.drop 4).take (b.length - 8)).drop 4).take 4) = (crS a).toNat)) ∧ lsP (numN13 ((((b.drop 4).take (b.length - 8)).drop 8).take 4)) ((((b.drop 4).take (b.length - 8)).drop 8).drop 4) = some (L, r)
  | 6 => ∃ vl v' L r, RS21 w0 B va vl r v' X ∧ PtN21 N X v' L ∧ (20 ≤ b.length ∧ b.take 4 = [84, 80, 68, 49] ∧ numN13 ((b.drop (b.length - 4)).take 4) = (crS (b.take (b.length - 4))).toNat ∧ (numN13 (((b.drop 4).take (b.length - 8)).take 4) = a.length ∧ numN13 ((((b.drop 4).take (b.length - 8)).drop 4).take 4) = (crS a).toNat)) ∧ lsP (numN13 ((((b.drop 4).take (b.length - 8)).drop 8).take 4)) ((((b.drop 4).take (b.length - 8)).drop 8).drop 4) = some (L, r) ∧ r = []
  | _ => ∃ vl v' L, RS21 w0 B va vl [] v' X ∧ PtN21 N X v' L ∧ psR a b = (0, L)
theorem pcP_len21 {l r : List Nat} {p : Pt} (h : pcP l = some (p, r)) : r.length + 12 ≤ l.length := by
  unfold pcP at h
  split at h
  · cases h
  · split at h
    · cases h
    · injection h with h
      injection h with h1 h2
      rw [← h2, List.length_drop, List.length_drop]
      omega
theorem nn21 {p : Prop} (h : p) : ¬ ¬ p := fun g => g h
theorem lsP_len21 : ∀ (n : Nat) (l : List Nat) (L : List Pt) (r : List Nat), lsP n l = some (L, r) → 12 * L.length + r.length ≤ l.length
  | 0, l, L, r, h => by
    simp only [lsP, Option.some.injEq, Prod.mk.injEq] at h
    obtain ⟨rfl, rfl⟩ := h
    simp
  | n + 1, l, L, r, h => by
    unfold lsP at h
    cases hp : pcP l with
    | none => rw [hp] at h; cases h
    | some q =>
      obtain ⟨p, r1⟩ := q
      rw [hp] at h
      simp only at h
      cases hq : lsP n r1 with
      | none => rw [hq] at h; cases h
      | some q2 =>
        obtain ⟨L2, r2⟩ := q2
        rw [hq] at h
        simp only [Option.some.injEq, Prod.mk.injEq] at h
        obtain ⟨rfl, rfl⟩ := h
        have h1 := pcP_len21 hp
        have h2 := lsP_len21 n r1 L2 r2 hq
        simp only [List.length_cons]
        omega
theorem lsP_len_ok {n : Nat} {b : List Nat} {k1 k2 k3 k4 : Nat} {L : List Pt} {r : List Nat} (h : lsP n ((((b.drop k1).take k2).drop k3).drop k4) = some (L, r)) (hb : b.length ≤ 140737480000000) : L.length ≤ 140737488355328 := by
  have := lsP_len21 _ _ _ _ h
  rw [List.length_drop, List.length_drop, List.length_take, List.length_drop] at this
  omega
structure Rk21 (w0 : World) (B : Nat) (X : World) : Prop where
  b : Below w0.heap.size w0 X
  h : B = w0.heap.size + 2
  l : X.heap[w0.heap.size]? = some (.cells #[.slice none 0 0] 23)
  e : X.heap[w0.heap.size + 1]? = some (.cells #[.int .i64 0] 27)
  r : ∃ T, X.heap[B + 1]? = some (.cells #[.func (.func 37) #[.pointer (some ⟨B, 0, none⟩)] #[], .func (.func 38) #[.pointer (some ⟨B, 0, none⟩)] #[], .func (.func 39) #[.pointer (some ⟨B, 0, none⟩)] #[], .func (.func 40) #[.pointer (some ⟨B, 0, none⟩)] #[], .func (.func 41) #[.pointer (some ⟨B, 0, none⟩)] #[], .func (.func 42) #[.pointer (some ⟨B, 0, none⟩)] #[], .func (.func 43) #[.pointer (some ⟨B, 0, none⟩)] #[]] T)
theorem Rk21.kept {w0 X Y : World} {B : Nat} (h : Rk21 w0 B X) (hk : KR21 B X Y) : Rk21 w0 B Y := by
  have hB := h.h
  have k : ∀ (z : Nat) (o : Obj), X.heap[z]? = some o → z ≠ B → Y.heap[z]? = some o := fun z o h1 h2 => (hk.ot.2 z (lt_16 h1) h2).trans h1
  obtain ⟨T, hr⟩ := h.r
  exact ⟨h.b.trans (hk.lo.mono (by omega)), hB, k _ _ h.l (by omega), k _ _ h.e (by omega), T, k _ _ hr (by omega)⟩
theorem Rk21.below {w0 X Y : World} {B : Nat} (h : Rk21 w0 B X) (hb : Below X.heap.size X Y) : Rk21 w0 B Y := by
  have k : ∀ (z : Nat) (o : Obj), X.heap[z]? = some o → Y.heap[z]? = some o := fun z o h1 => (hb.block z (lt_16 h1)).trans h1
  obtain ⟨T, hr⟩ := h.r
  exact ⟨keepb hb h.b, h.h, k _ _ h.l, k _ _ h.e, T, k _ _ hr⟩
def RdT21 (a b : List Nat) (w : World) (e : Ending) (w' : World) : Prop := ∃ v', e = .returned (.tuple #[v', .int .i64 (psR a b).1]) ∧ PtR21 w' v' (psR a b).2 ∧ Below w.heap.size w w'
theorem PtN21.mono {N M : Nat} {w : World} {v : Value} {L : List Pt} (h : PtN21 M w v L) (hN : N ≤ M) : PtN21 N w v L := fun W hW => h W (fun z h1 h2 => hW z (by omega) h2)
theorem PtN21.below {N : Nat} {w w' : World} {v : Value} {L : List Pt} (h : PtN21 N w v L) (hb : Below w.heap.size w w') : PtN21 N w' v L := fun W hW => h W (fun z h1 h2 => (hW z h1 (by have := hb.size; omega)).trans (hb.block z h2))
theorem door21 (a b : List Nat) (w : World) (B : Nat) (X : World) (E : Int) (tmps : Array Value) (h : Rk21 w B X) (hE : psR a b = (E, [])) (h4 : tmps[4]? = some (.pointer (some ⟨w.heap.size, 0, none⟩))) (h5 : tmps[5]? = some (.pointer (some ⟨w.heap.size + 1, 0, none⟩))) :
    Leaves Tryd.prog Tryd.f26 tmps (fun e w' => RdT21 a b w e w') [{ target := .fn (.func 36) #[.pointer (some ⟨w.heap.size, 0, none⟩), .pointer (some ⟨w.heap.size + 1, 0, none⟩)], args := #[] }] (.panicking (pan21 E)) X := by
  refine leaves_cons (f := 36) (args := #[.pointer (some ⟨w.heap.size, 0, none⟩), .pointer (some ⟨w.heap.size + 1, 0, none⟩)]) (by simp) (by simp [go_sem]) ?_
  refine (catchP21 ⟨w.heap.size, 0, none⟩ ⟨w.heap.size + 1, 0, none⟩ (.slice none 0 0) (.int .i64 0) E [] X (at_16 h.l 0 _ rfl) (fr_16 (j := 0) h.l) (at_16 h.e 0 _ rfl) (fr_16 (j := 0) h.e) (by simp)).mono ?_
  rintro e u' w'' ⟨rfl, rfl, rfl⟩
  have e1 : ((X.setCell ⟨w.heap.size, 0, none⟩ (.slice none 0 0)).setCell ⟨w.heap.size + 1, 0, none⟩ (.int .i64 E)).cell? ⟨w.heap.size, 0, none⟩ = some (.slice none 0 0) := at_16 ((far_16 (by omega)).trans (set_16 (o := 0) h.l (.slice none 0 0))) 0 _ rfl
  have e2 : ((X.setCell ⟨w.heap.size, 0, none⟩ (.slice none 0 0)).setCell ⟨w.heap.size + 1, 0, none⟩ (.int .i64 E)).cell? ⟨w.heap.size + 1, 0, none⟩ = some (.int .i64 E) := at_16 (set_16 (o := 0) ((far_16 (by omega)).trans h.e) (.int .i64 E)) 0 _ rfl
  have hfin : RdT21 a b w (.returned (.tuple #[.slice none 0 0, .int .i64 E])) ((X.setCell ⟨w.heap.size, 0, none⟩ (.slice none 0 0)).setCell ⟨w.heap.size + 1, 0, none⟩ (.int .i64 E)) := by
    refine ⟨.slice none 0 0, by rw [hE], by rw [hE]; exact ⟨none, 0, rfl, Nat.le_refl _, .inl rfl⟩, ?_⟩
    exact (h.b.setCell (p := ⟨w.heap.size, 0, none⟩) (Nat.le_refl _) _).setCell (p := ⟨w.heap.size + 1, 0, none⟩) (show w.heap.size ≤ w.heap.size + 1 by omega) _
  show Leaves _ _ _ _ _ (settle _) _
  simp only [settle, List.dropWhile_nil]
  refine ⟨.tuple #[.slice none 0 0, .int .i64 E], ?_, hfin⟩
  simp [results, Tryd.results26, go_sem, h4, h5, e1, e2]
set_option maxRecDepth 100000 in
set_option maxHeartbeats 32000000 in
theorem read21 (va : Value) (a : List Nat) (vb : Value) (b : List Nat) (w : World) (ha : RwX cB w va a) (hax : ∀ z ∈ a, z < 256) (han : a.length ≤ 140737480000000) (hb : RwX cB w vb b) (hbA : RowA w 1 vb b.length (b.map cB)) (hbx : ∀ z ∈ b, z < 256) (hbn : b.length ≤ 140737480000000) (hT : Hf w) :
    Calls Tryd.prog 26 #[va, vb] w fun e w' => RdT21 a b w e w' := by
  have hmf : ∀ (fn : Fn) (first cap : Array Value) (w : World), (Instr.makeFunc fn first cap).run Tryd.prog w = .ok (.func fn first cap) w := fun _ _ _ _ => rfl
  obtain ⟨ao, ac, hva, -⟩ := id ha
  obtain ⟨bo, bc, hvb, -⟩ := id hb
  subst hva hvb
  have HA : Hid (RwX cB w (.slice ao a.length ac) a ∧ (∀ z ∈ a, z < 256) ∧ a.length ≤ 140737480000000) := ⟨ha, hax, han⟩
  have HB : Hid (RwX cB w (.slice bo b.length bc) b ∧ RowA w 1 (.slice bo b.length bc) b.length (b.map cB) ∧ (∀ z ∈ b, z < 256) ∧ b.length ≤ 140737480000000) := ⟨hb, hbA, hbx, hbn⟩
  have HT := hid13 hT
  obtain ⟨B, hB⟩ : ∃ B, B = w.heap.size + 1 + 1 := ⟨_, rfl⟩
  have q1 := bl1 w (.cells #[.slice none 0 0] 23)
  obtain ⟨w1, hw1⟩ : ∃ w1, w1 = w.alloc (.cells #[.slice none 0 0] 23) := ⟨_, rfl⟩
  have s1 : w1.heap.size = w.heap.size + 1 := by rw [hw1]; simp
  have l1 : w1.heap[w.heap.size]? = some (.cells #[.slice none 0 0] 23) := by rw [hw1]; exact new_16 _ _
  rw [← hw1] at q1
  have q2 := bl1 w1 (.cells #[.int .i64 0] 27)
  obtain ⟨w2, hw2⟩ : ∃ w2, w2 = w1.alloc (.cells #[.int .i64 0] 27) := ⟨_, rfl⟩
  have s2 : w2.heap.size = B := by rw [hw2, hB, ← s1]; simp
  have e2 : w2.heap[w.heap.size + 1]? = some (.cells #[.int .i64 0] 27) := by rw [hw2, ← s1]; exact new_16 _ _
  rw [← hw2] at q2
  have q3 := bl1 w2 (.cells #[.slice ao a.length ac, .slice bo b.length bc, .slice none 0 0] 64)
  obtain ⟨w3, hw3⟩ : ∃ w3, w3 = w2.alloc (.cells #[.slice ao a.length ac, .slice bo b.length bc, .slice none 0 0] 64) := ⟨_, rfl⟩
  have s3 : w3.heap.size = B + 1 := by rw [hw3, ← s2]; simp
  have r3 : w3.heap[B]? = some (.cells #[.slice ao a.length ac, .slice bo b.length bc, .slice none 0 0] 64) := by rw [hw3, ← s2]; exact new_16 _ _
  rw [← hw3] at q3
  have q4 := bl1 w3 (.cells #[.func (.func 37) #[.pointer (some ⟨B, 0, none⟩)] #[], .func (.func 38) #[.pointer (some ⟨B, 0, none⟩)] #[], .func (.func 39) #[.pointer (some ⟨B, 0, none⟩)] #[], .func (.func 40) #[.pointer (some ⟨B, 0, none⟩)] #[], .func (.func 41) #[.pointer (some ⟨B, 0, none⟩)] #[], .func (.func 42) #[.pointer (some ⟨B, 0, none⟩)] #[], .func (.func 43) #[.pointer (some ⟨B, 0, none⟩)] #[]] 1)
  obtain ⟨w4, hw4⟩ : ∃ w4, w4 = w3.alloc (.cells #[.func (.func 37) #[.pointer (some ⟨B, 0, none⟩)] #[], .func (.func 38) #[.pointer (some ⟨B, 0, none⟩)] #[], .func (.func 39) #[.pointer (some ⟨B, 0, none⟩)] #[], .func (.func 40) #[.pointer (some ⟨B, 0, none⟩)] #[], .func (.func 41) #[.pointer (some ⟨B, 0, none⟩)] #[], .func (.func 42) #[.pointer (some ⟨B, 0, none⟩)] #[], .func (.func 43) #[.pointer (some ⟨B, 0, none⟩)] #[]] 1) := ⟨_, rfl⟩
  have s4 : w4.heap.size = B + 2 := by rw [hw4, ← Nat.add_assoc B 1 1, ← s3]; simp
  have r4 : w4.heap[B + 1]? = some (.cells #[.func (.func 37) #[.pointer (some ⟨B, 0, none⟩)] #[], .func (.func 38) #[.pointer (some ⟨B, 0, none⟩)] #[], .func (.func 39) #[.pointer (some ⟨B, 0, none⟩)] #[], .func (.func 40) #[.pointer (some ⟨B, 0, none⟩)] #[], .func (.func 41) #[.pointer (some ⟨B, 0, none⟩)] #[], .func (.func 42) #[.pointer (some ⟨B, 0, none⟩)] #[], .func (.func 43) #[.pointer (some ⟨B, 0, none⟩)] #[]] 1) := by rw [hw4, ← s3]; exact new_16 _ _
  rw [← hw4] at q4
  have k1 : ∀ (z : Nat) (o : Obj), w1.heap[z]? = some o → w2.heap[z]? = some o := fun z o h => (q2.block z (lt_16 h)).trans h
  have k2 : ∀ (z : Nat) (o : Obj), w2.heap[z]? = some o → w3.heap[z]? = some o := fun z o h => (q3.block z (lt_16 h)).trans h
  have k3 : ∀ (z : Nat) (o : Obj), w3.heap[z]? = some o → w4.heap[z]? = some o := fun z o h => (q4.block z (lt_16 h)).trans h
  have HRk : Hid (Rk21 w B w4) := ⟨keepb q4 (keepb q3 (keepb q2 q1)), hB, k3 _ _ (k2 _ _ (k1 _ _ l1)), k3 _ _ (k2 _ _ e2), _, r4⟩
  have HR0 : Hid (RS21 w B (.slice ao a.length ac) (.slice bo b.length bc) b (.slice none 0 0) w4) := ⟨HRk.out.b, by omega, k3 _ _ r3, hb, hbA, hbx, hbn⟩
  have HW : Hid ((((w.alloc (.cells #[.slice none 0 0] 23)).alloc (.cells #[.int .i64 0] 27)).alloc (.cells #[.slice ao a.length ac, .slice bo b.length bc, .slice none 0 0] 64)).alloc (.cells #[.func (.func 37) #[.pointer (some ⟨B, 0, none⟩)] #[], .func (.func 38) #[.pointer (some ⟨B, 0, none⟩)] #[], .func (.func 39) #[.pointer (some ⟨B, 0, none⟩)] #[], .func (.func 40) #[.pointer (some ⟨B, 0, none⟩)] #[], .func (.func 41) #[.pointer (some ⟨B, 0, none⟩)] #[], .func (.func 42) #[.pointer (some ⟨B, 0, none⟩)] #[], .func (.func 43) #[.pointer (some ⟨B, 0, none⟩)] #[]] 1) = w4) := by show _ = _; rw [hw4, hw3, hw2, hw1]
  have HBe : Hid (w.heap.size + 1 + 1 = B) := hB.symm
  have HS4 := hid13 s4
  clear ha hax han hb hbA hbx hbn hT hB q1 hw1 s1 l1 q2 hw2 s2 e2 q3 hw3 s3 r3 q4 hw4 s4 r4 k1 k2 k3
  go_enter_defers Tryd.func26, Tryd.ntmps26
  go_wp2
  rw [HBe.out, HW.out]
  clear HW
  go_loopg [30] 7 (fun g x X => ∃ (i : Nat), i + g = 7 ∧ x = .int .i64 (i : Int) ∧ Hid (StP21 a b w B (.slice ao a.length ac) (.slice bo b.length bc) (B + 2) X i) ∧ Hid (Rk21 w B X))
  case atStart => exact ⟨0, rfl, rfl, HR0.out, HRk.out⟩
  case round =>
    clear HR0 HRk
    obtain ⟨i, hi, rfl, HSt, HRk⟩ := hrel
    obtain ⟨T4, hr4⟩ := HRk.out.r
    have hi7 : i = 0 ∨ i = 1 ∨ i = 2 ∨ i = 3 ∨ i = 4 ∨ i = 5 ∨ i = 6 ∨ i = 7 := by omega
    rcases hi7 with rfl | rfl | rfl | rfl | rfl | rfl | rfl | rfl
    all_goals (have HG := hid13 hi; clear hi)
    · have c0 := at_16 hr4 0 _ rfl
      clear hr4
      go_wp2_with fail
      refine (sizeS21 w B _ _ b _ wr HSt.out).mono ?_
      rintro e w1 ⟨rfl, hw1⟩
      replace hw1 := hw1.symm
      subst hw1
      by_cases h20 : 20 ≤ b.length
      · rw [if_pos h20]
        have HN : Hid (StP21 a b w B (.slice ao a.length ac) (.slice bo b.length bc) (B + 2) wr 1) := ⟨HSt.out, h20⟩
        clear HSt c0 h20
        go_wp2
        go_roundg 6
        case measure => have := HG.out; omega
        case rel => exact ⟨1, rfl, rfl, HN, HRk⟩
      · rw [if_neg h20]
        have hE : psR a b = (22, []) := by unfold psR; rw [if_pos (by omega)]
        exact door21 a b w B wr 22 _ HRk.out hE rfl rfl
    · have c1 := at_16 hr4 1 _ rfl
      clear hr4
      go_wp2_with fail
      have HH := hid13 HSt.out
      refine (magicS21 w B _ _ b _ wr HSt.out.1 (by have := HSt.out.2; omega)).mono ?_
      rintro e w1 ⟨rfl, hw1⟩
      replace hw1 := hw1.symm
      subst hw1
      by_cases hm : b.take 4 = [84, 80, 68, 49]
      · rw [if_pos hm]
        have HN : Hid (StP21 a b w B (.slice ao a.length ac) (.slice bo b.length bc) (B + 2) wr 2) := ⟨HSt.out.1, HSt.out.2, hm⟩
        clear HSt c1 hm HH
        go_wp2
        go_roundg 5
        case measure => have := HG.out; omega
        case rel => exact ⟨2, rfl, rfl, HN, HRk⟩
      · rw [if_neg hm]
        have hE : psR a b = (21, []) := by
          unfold psR
          rw [if_neg (by have := HSt.out.2; omega : ¬ b.length < 20), if_pos hm]
        exact door21 a b w B wr 21 _ HRk.out hE rfl rfl
    · have c2 := at_16 hr4 2 _ rfl
      clear hr4
      go_wp2_with fail
      refine (sumS21 w B _ _ b _ wr HSt.out.1 HSt.out.2.1 (HT.out.below HRk.out.b)).mono ?_
      intro e w1 hq
      unfold SmQ21 at hq
      by_cases hm : numN13 ((b.drop (b.length - 4)).take 4) = (crS (b.take (b.length - 4))).toNat
      · rw [if_pos hm] at hq
        obtain ⟨rfl, hvl, hk⟩ := hq
        have HN : Hid (StP21 a b w B (.slice ao a.length ac) (.slice bo b.length bc) (B + 2) w1 3) := ⟨hvl, HSt.out.2.1, HSt.out.2.2, hm⟩
        have HK := hid13 (HRk.out.kept hk)
        clear HSt c2 hm hvl hk HRk
        go_wp2
        go_roundg 4
        case measure => have := HG.out; omega
        case rel => exact ⟨3, rfl, rfl, HN, HK⟩
      · rw [if_neg hm] at hq
        obtain ⟨rfl, hk⟩ := hq
        have hE : psR a b = (23, []) := by
          unfold psR
          rw [if_neg (by have := HSt.out.2.1; omega : ¬ b.length < 20), if_neg (nn21 HSt.out.2.2), if_pos hm]
        exact door21 a b w B w1 23 _ (HRk.out.kept hk) hE rfl rfl
    · have c3 := at_16 hr4 3 _ rfl
      clear hr4
      go_wp2_with fail
      obtain ⟨⟨vl, hs⟩, h20, hmg, hsm⟩ := HSt.out
      have HH : Hid (20 ≤ b.length ∧ b.take 4 = [84, 80, 68, 49] ∧ numN13 ((b.drop (b.length - 4)).take 4) = (crS (b.take (b.length - 4))).toNat) := ⟨h20, hmg, hsm⟩
      have h8 : 8 ≤ ((b.drop 4).take (b.length - 8)).length := by rw [List.length_take, List.length_drop]; omega
      refine (ownerS21 w B _ a vl _ _ wr hs h8 HA.out.1 HA.out.2.1 HA.out.2.2 (HT.out.below HRk.out.b) (fun X hX => HT.out.below (HRk.out.kept hX).b)).mono ?_
      intro e w1 hq
      unfold OwQ21 at hq
      clear hs h20 hmg hsm h8
      by_cases hm : numN13 (((b.drop 4).take (b.length - 8)).take 4) = a.length ∧ numN13 ((((b.drop 4).take (b.length - 8)).drop 4).take 4) = (crS a).toNat
      · rw [if_pos hm] at hq
        obtain ⟨rfl, hvl, hk⟩ := hq
        have HN : Hid (StP21 a b w B (.slice ao a.length ac) (.slice bo b.length bc) (B + 2) w1 4) := ⟨hvl, HH.out.1, HH.out.2.1, HH.out.2.2, hm⟩
        have HK := hid13 (HRk.out.kept hk)
        clear HSt c3 hm hvl hk HRk
        go_wp2
        go_roundg 3
        case measure => have := HG.out; omega
        case rel => exact ⟨4, rfl, rfl, HN, HK⟩
      · rw [if_neg hm] at hq
        obtain ⟨rfl, hk⟩ := hq
        have hE : psR a b = (33, []) := by
          unfold psR
          rw [if_neg (by have := HH.out.1; omega : ¬ b.length < 20), if_neg (nn21 HH.out.2.1), if_neg (nn21 HH.out.2.2), if_pos hm]
        exact door21 a b w B w1 33 _ (HRk.out.kept hk) hE rfl rfl
    · have c4 := at_16 hr4 4 _ rfl
      clear hr4
      go_wp2_with fail
      obtain ⟨⟨vl, hs⟩, h20, hmg, hsm, how⟩ := HSt.out
      have HH : Hid (20 ≤ b.length ∧ b.take 4 = [84, 80, 68, 49] ∧ numN13 ((b.drop (b.length - 4)).take 4) = (crS (b.take (b.length - 4))).toNat ∧ (numN13 (((b.drop 4).take (b.length - 8)).take 4) = a.length ∧ numN13 ((((b.drop 4).take (b.length - 8)).drop 4).take 4) = (crS a).toNat)) := ⟨h20, hmg, hsm, how⟩
      have h4 : 4 ≤ (((b.drop 4).take (b.length - 8)).drop 8).length := by rw [List.length_drop, List.length_take, List.length_drop]; omega
      have HBz : Hid (B + 2 ≤ wr.heap.size) := by
        have := lt_16 hs.c
        obtain ⟨T, hr⟩ := HRk.out.r
        have := lt_16 hr
        show _ ≤ _
        omega
      refine (listS21 w B _ vl _ _ wr hs h4).mono ?_
      intro e w1 hq
      clear hs h20 hmg hsm how h4
      rcases hq with ⟨L, r, vl', v', hls, rfl, hpt, hs', hk⟩ | ⟨hls, rfl, hk⟩
      · have HN : Hid (StP21 a b w B (.slice ao a.length ac) (.slice bo b.length bc) (B + 2) w1 5) := ⟨vl', v', L, r, hs', hpt.mono HBz.out, HH.out, hls⟩
        have HK := hid13 (HRk.out.kept hk)
        clear HSt c4 hls hpt hs' hk HRk HBz
        go_wp2
        go_roundg 2
        case measure => have := HG.out; omega
        case rel => exact ⟨5, rfl, rfl, HN, HK⟩
      · have hE : psR a b = (22, []) := by
          unfold psR
          rw [if_neg (by have := HH.out.1; omega : ¬ b.length < 20), if_neg (nn21 HH.out.2.1), if_neg (nn21 HH.out.2.2.1), if_neg (nn21 HH.out.2.2.2), hls]
        exact door21 a b w B w1 22 _ (HRk.out.kept hk) hE rfl rfl
    · have c5 := at_16 hr4 5 _ rfl
      clear hr4
      go_wp2_with fail
      obtain ⟨vl, v', L, r, hs, hpt, hh, hls⟩ := HSt.out
      have HH := hid13 hh
      have HLs := hid13 hls
      refine (endS21 w B _ vl r v' wr hs).mono ?_
      rintro e w1 ⟨rfl, hw1⟩
      replace hw1 := hw1.symm
      subst hw1
      by_cases hr : r = []
      · rw [if_pos hr]
        have HN : Hid (StP21 a b w B (.slice ao a.length ac) (.slice bo b.length bc) (B + 2) wr 6) := ⟨vl, v', L, r, hs, hpt, hh, hls, hr⟩
        clear HSt c5 hs hpt hh hls hr HH HLs
        go_wp2
        go_roundg 1
        case measure => have := HG.out; omega
        case rel => exact ⟨6, rfl, rfl, HN, HRk⟩
      · rw [if_neg hr]
        have hE : psR a b = (22, []) := by
          unfold psR
          rw [if_neg (by have := HH.out.1; omega : ¬ b.length < 20), if_neg (nn21 HH.out.2.1), if_neg (nn21 HH.out.2.2.1), if_neg (nn21 HH.out.2.2.2), HLs.out]
          simp only
          rw [if_pos hr]
        exact door21 a b w B wr 22 _ HRk.out hE rfl rfl
    · have c6 := at_16 hr4 6 _ rfl
      clear hr4
      go_wp2_with fail
      obtain ⟨vl, v', L, r, hs, hpt, hh, hls, hr⟩ := HSt.out
      subst hr
      have HH := hid13 hh
      have HLs := hid13 hls
      have hll : L.length ≤ 140737488355328 := lsP_len_ok hls HB.out.2.2.2
      refine (fitS21 w B _ a vl [] v' L wr hs HA.out.1 HA.out.2.2 (hpt wr (fun _ _ _ => rfl)) hll).mono ?_
      rintro e w1 ⟨rfl, hb1⟩
      by_cases hf : fitB a.length L = true
      · rw [if_pos hf]
        have hE : psR a b = (0, L) := by
          unfold psR
          rw [if_neg (by have := HH.out.1; omega : ¬ b.length < 20), if_neg (nn21 HH.out.2.1), if_neg (nn21 HH.out.2.2.1), if_neg (nn21 HH.out.2.2.2), HLs.out]
          simp only
          rw [if_neg (nn21 rfl), if_pos hf]
        have HN : Hid (StP21 a b w B (.slice ao a.length ac) (.slice bo b.length bc) (B + 2) w1 7) := ⟨vl, v', L, hs.below hb1, hpt.below hb1, hE⟩
        have HK := hid13 (HRk.out.below hb1)
        clear HSt c6 hs hpt hh hls hf HH HLs hE hb1 HRk hll
        go_wp2
        go_roundg 0
        case measure => have := HG.out; omega
        case rel => exact ⟨7, rfl, rfl, HN, HK⟩
      · rw [if_neg hf]
        have hE : psR a b = (33, []) := by
          unfold psR
          rw [if_neg (by have := HH.out.1; omega : ¬ b.length < 20), if_neg (nn21 HH.out.2.1), if_neg (nn21 HH.out.2.2.1), if_neg (nn21 HH.out.2.2.2), HLs.out]
          simp only
          rw [if_neg (nn21 rfl), if_neg hf]
        exact door21 a b w B w1 33 _ (HRk.out.below hb1) hE rfl rfl
    · obtain ⟨vl, v', L, hs, hpt, hE⟩ := HSt.out
      have hpt0 := hpt wr (fun _ _ _ => rfl)
      obtain ⟨po, pc, hv'⟩ : ∃ o c, v' = .slice o L.length c := by obtain ⟨o, c, hh, -⟩ := hpt0; exact ⟨o, c, hh⟩
      subst hv'
      have z2 := at_16 hs.c 2 _ rfl
      have y0 := at_16 HRk.out.l 0 _ rfl
      have g0 := fr_16 (j := 0) HRk.out.l
      have y1 := at_16 HRk.out.e 0 _ rfl
      have g1 := fr_16 (j := 0) HRk.out.e
      have HE := hid13 hE
      have HPt := hid13 hpt
      have HBe2 := hid13 HRk.out.h
      clear HSt hs hpt hpt0 hE hr4
      go_wp2
      refine leaves_cons (f := 36) (args := #[.pointer (some ⟨w.heap.size, 0, none⟩), .pointer (some ⟨w.heap.size + 1, 0, none⟩)]) (by simp) (by simp [go_sem]) ?_
      refine (catchI21 _ _ _).mono ?_
      rintro e u' w'' ⟨rfl, rfl, rfl⟩
      show Leaves _ _ _ _ _ (settle _) _
      simp only [settle]
      have e1 : ((wr.setCell ⟨w.heap.size, 0, none⟩ (.slice po L.length pc)).setCell ⟨w.heap.size + 1, 0, none⟩ (.int .i64 0)).cell? ⟨w.heap.size, 0, none⟩ = some (.slice po L.length pc) := at_16 ((far_16 (by omega)).trans (set_16 (o := 0) HRk.out.l (.slice po L.length pc))) 0 _ rfl
      have e2 : ((wr.setCell ⟨w.heap.size, 0, none⟩ (.slice po L.length pc)).setCell ⟨w.heap.size + 1, 0, none⟩ (.int .i64 0)).cell? ⟨w.heap.size + 1, 0, none⟩ = some (.int .i64 0) := at_16 (set_16 (o := 0) ((far_16 (by omega)).trans HRk.out.e) (.int .i64 0)) 0 _ rfl
      refine ⟨.tuple #[.slice po L.length pc, .int .i64 0], ?_, ?_⟩
      · simp [results, Tryd.results26, go_sem, e1, e2]
      · refine ⟨.slice po L.length pc, by rw [HE.out], ?_, ?_⟩
        · rw [HE.out]
          exact HPt.out _ (fun z h1 h2 => (far_16 (by have := HBe2.out; omega)).trans (far_16 (by have := HBe2.out; omega)))
        · exact (HRk.out.b.setCell (p := ⟨w.heap.size, 0, none⟩) (Nat.le_refl _) _).setCell (p := ⟨w.heap.size + 1, 0, none⟩) (show w.heap.size ≤ w.heap.size + 1 by omega) _
theorem parse21 (va : Value) (a : List Nat) (vb : Value) (b : List Nat) (w : World) (ha : RwX cB w va a) (hax : ∀ z ∈ a, z < 256) (han : a.length ≤ 140737480000000) (hb : RwX cB w vb b) (hbA : RowA w 1 vb b.length (b.map cB)) (hbx : ∀ z ∈ b, z < 256) (hbn : b.length ≤ 140737480000000) (hT : Hf w) :
    Calls Tryd.prog 16 #[va, vb] w fun e w' => RdT21 a b w e w' := by
  have K1 := read21 va a vb b w ha hax han hb hbA hbx hbn hT
  obtain ⟨ao, ac, hva, -⟩ := id ha
  obtain ⟨bo, bc, hvb, -⟩ := id hb
  subst hva hvb
  clear ha hax han hb hbA hbx hbn hT
  go_enter Tryd.func16, Tryd.ntmps16
  go_wp2_with fail
  refine K1.mono ?_
  rintro e w1 ⟨v', rfl, hp, hb1⟩
  obtain ⟨po, pc, hv'⟩ : ∃ o c, v' = .slice o (psR a b).2.length c := by obtain ⟨o, c, hh, -⟩ := hp; exact ⟨o, c, hh⟩
  have HP := hid13 (And.intro hp hb1)
  clear K1 hp hb1 hv'
  go_wp2
  exact bodyPost_ret (v := .tuple #[v', .int .i64 (psR a b).1]) (by simp [results, Tryd.results16, go_sem]) rfl ⟨v', rfl, HP.out.1, HP.out.2⟩
end Go.Proofs.YtiachojhnbicaaaDoor
namespace Go.Proofs.YtiachojhnbicaaaDoor
set_option linter.unusedSimpArgs false
set_option linter.unusedVariables false

end Go.Proofs.YtiachojhnbicaaaDoor
namespace Go.Proofs.YtiachojhnbicaaaDoor
set_option linter.unusedSimpArgs false
set_option linter.unusedVariables false

def ptB21 (p : Pt) : List Nat := ld21 [] [p.k.toNat, p.d.toNat, p.x.length] ++ p.x
theorem byF_eq (o : List Nat) (p : Pt) : byF o p = o ++ ptB21 p := by
  unfold byF ptB21 ld21
  simp
theorem byS_eq (a : List Nat) (n : Nat) (L : List Pt) : byS a n L = byH a n ++ L.flatMap ptB21 := by
  unfold byS
  suffices h : ∀ (L : List Pt) (o : List Nat), L.foldl byF o = o ++ L.flatMap ptB21 from h L _
  intro L
  induction L with
  | nil => intro o; simp
  | cons p L ih =>
    intro o
    rw [List.foldl_cons, ih, byF_eq, List.flatMap_cons, List.append_assoc]
def okN21 (p : Pt) : Prop := 0 ≤ p.k ∧ p.k < 4294967296 ∧ 0 ≤ p.d ∧ p.d < 4294967296 ∧ p.x.length < 4294967296
theorem take4_21 (n : Nat) (l : List Nat) : (by4 n ++ l).take 4 = by4 n := rfl
theorem drop4_21 (n : Nat) (l : List Nat) : (by4 n ++ l).drop 4 = l := rfl
theorem ptB21_eq (p : Pt) (r : List Nat) : ptB21 p ++ r = by4 p.k.toNat ++ (by4 p.d.toNat ++ (by4 p.x.length ++ (p.x ++ r))) := by
  unfold ptB21 ld21
  simp
theorem pcP_bytes (p : Pt) (r : List Nat) (h : okN21 p) : pcP (ptB21 p ++ r) = some (p, r) := by
  obtain ⟨h1, h2, h3, h4, h5⟩ := h
  rw [ptB21_eq]
  have e0 : (by4 p.k.toNat ++ (by4 p.d.toNat ++ (by4 p.x.length ++ (p.x ++ r)))).length = 12 + (p.x ++ r).length := by
    rw [List.length_append, List.length_append, List.length_append, by4_len21, by4_len21, by4_len21]; omega
  have d4 : (by4 p.k.toNat ++ (by4 p.d.toNat ++ (by4 p.x.length ++ (p.x ++ r)))).drop 4 = by4 p.d.toNat ++ (by4 p.x.length ++ (p.x ++ r)) := rfl
  have d8 : (by4 p.k.toNat ++ (by4 p.d.toNat ++ (by4 p.x.length ++ (p.x ++ r)))).drop 8 = by4 p.x.length ++ (p.x ++ r) := rfl
  have d12 : (by4 p.k.toNat ++ (by4 p.d.toNat ++ (by4 p.x.length ++ (p.x ++ r)))).drop 12 = p.x ++ r := rfl
  unfold pcP
  rw [if_neg (by rw [e0]; omega), d8, d12, d4, take4_21, take4_21, take4_21, num4 _ h5, num4 _ (by omega), num4 _ (by omega)]
  rw [if_neg (by rw [List.length_append]; omega)]
  rw [List.take_left', List.drop_left']
  · congr 1
    obtain ⟨pk, pd, px⟩ := p
    simp only at h1 h3 ⊢
    rw [Int.toNat_of_nonneg h1, Int.toNat_of_nonneg h3]
  · rfl
  · rfl
theorem lsP_bytes : ∀ (L : List Pt) (r : List Nat), (∀ p ∈ L, okN21 p) → lsP L.length (L.flatMap ptB21 ++ r) = some (L, r)
  | [], r, _ => rfl
  | p :: L, r, h => by
    rw [List.flatMap_cons, List.append_assoc, List.length_cons]
    unfold lsP
    rw [pcP_bytes p _ (h p (List.mem_cons_self ..))]
    simp only
    rw [lsP_bytes L r (fun q hq => h q (List.mem_cons_of_mem _ hq))]
theorem ps_bytes (a : List Nat) (L : List Pt) (hf : fitB a.length L = true) (ha : a.length < 4294967296) (hl : L.length < 4294967296) (hw : wt21 L < 4294967296) : psR a (byB a L) = (0, L) := by
  have hok : ∀ p ∈ L, okN21 p := by
    intro p hp
    have h1 := fit_nat21 hf p hp
    have h2 : p.x.length ≤ wt21 L := by
      obtain ⟨j, hj⟩ := List.getElem?_of_mem hp
      have h3 := wt21_take hj
      have h4 := wt21_le (L := L) (j + 1)
      omega
    exact ⟨by omega, by omega, by omega, by omega, by omega⟩
  have eB : byB a L = byS a L.length L ++ by4 (crS (byS a L.length L)).toNat := by
    unfold byB
    rw [if_pos hf]
    unfold bySum ld21
    simp
  obtain ⟨S, hS⟩ : ∃ S, S = byS a L.length L := ⟨_, rfl⟩
  have eS : S = [84, 80, 68, 49] ++ (by4 a.length ++ (by4 (crS a).toNat ++ (by4 L.length ++ L.flatMap ptB21))) := by
    rw [hS, byS_eq]
    unfold byH ld21
    simp
  have hSl : 16 ≤ S.length := by rw [hS, byS_len]; omega
  rw [← hS] at eB
  rw [eB]
  have hlen : (S ++ by4 (crS S).toNat).length = S.length + 4 := by rw [List.length_append, by4_len21]
  have hc4 : (crS S).toNat < 4294967296 := (crS S).isLt
  have hca : (crS a).toNat < 4294967296 := (crS a).isLt
  have t1 : (S ++ by4 (crS S).toNat).take 4 = [84, 80, 68, 49] := by rw [eS]; rfl
  have t2 : (S ++ by4 (crS S).toNat).drop ((S ++ by4 (crS S).toNat).length - 4) = by4 (crS S).toNat := by rw [hlen, Nat.add_sub_cancel]; exact List.drop_left' rfl
  have t3 : (S ++ by4 (crS S).toNat).take ((S ++ by4 (crS S).toNat).length - 4) = S := by rw [hlen, Nat.add_sub_cancel]; exact List.take_left' rfl
  have t4 : ((S ++ by4 (crS S).toNat).drop 4).take ((S ++ by4 (crS S).toNat).length - 8) = by4 a.length ++ (by4 (crS a).toNat ++ (by4 L.length ++ (L.flatMap ptB21 ++ []))) := by
    rw [hlen, List.drop_append_of_le_length (by omega), List.take_append_of_le_length (by rw [List.length_drop]; omega), List.take_of_length_le (by rw [List.length_drop]; omega), eS, List.append_nil]
    rfl
  unfold psR
  rw [if_neg (by rw [hlen]; omega), t1, if_neg (nn21 rfl), t2, t3, t4]
  have e4 : (by4 (crS S).toNat).take 4 = by4 (crS S).toNat := rfl
  rw [e4, num4 _ hc4, if_neg (nn21 rfl), take4_21, drop4_21, take4_21, num4 _ ha, num4 _ hca, if_neg (nn21 ⟨rfl, rfl⟩)]
  have e8 : (by4 a.length ++ (by4 (crS a).toNat ++ (by4 L.length ++ (L.flatMap ptB21 ++ [])))).drop 8 = by4 L.length ++ (L.flatMap ptB21 ++ []) := rfl
  rw [e8, take4_21, drop4_21, num4 _ hl, lsP_bytes L [] hok]
  simp only
  rw [if_neg (nn21 rfl), if_pos hf]
def dr21 (L : List Pt) : Int := (L.map fun p => p.d).sum
theorem dr21_take {L : List Pt} {k : Nat} {p : Pt} (h : L[k]? = some p) : dr21 (L.take (k + 1)) = dr21 (L.take k) + p.d := by
  unfold dr21
  rw [List.take_add_one, h, List.map_append, List.sum_append]
  simp
theorem apS_dr (a : List Nat) : ∀ (j : Nat) (L : List Pt) (m : Int), ftS a.length (L.take j) = some m → (((apS a (L.take j)).1.length : Nat) : Int) + m + dr21 (L.take j) = (a.length : Int) + (wt21 (L.take j) : Nat) ∧ 0 ≤ dr21 (L.take j) ∧ dr21 (L.take j) + m ≤ a.length := by
  intro j L
  induction j with
  | zero =>
    intro m h
    rw [List.take_zero] at h ⊢
    simp only [ftS, List.foldl_nil, Option.some.injEq] at h
    simp [apS, dr21, wt21]
    omega
  | succ j ih =>
    intro m h
    cases hp : L[j]? with
    | none =>
      have hl : L.length ≤ j := by simpa using hp
      rw [List.take_of_length_le (by omega)] at h ⊢
      have := ih m (by rw [List.take_of_length_le hl]; exact h)
      rw [List.take_of_length_le hl] at this
      exact this
    | some p =>
      cases hm : ftS a.length (L.take j) with
      | none => rw [ftS_take hp, hm] at h; cases h
      | some m' =>
        have h1 := ih m' hm
        have h2 := apS_len a j L m' hm
        rw [ftS_take hp, hm] at h
        unfold ftF at h
        dsimp only at h
        split at h
        · rename_i ho
          obtain ⟨o1, o2, o3, o4⟩ := ho
          injection h with h
          rw [apS_take hp, dr21_take hp, wt21_take hp]
          unfold apF
          dsimp only
          rw [List.length_append, List.length_append, List.length_take]
          push_cast
          omega
        · cases h
theorem ap_len21 (a : List Nat) (L : List Pt) (hf : fitB a.length L = true) : ((apL a L).length : Int) + dr21 L = (a.length : Int) + (wt21 L : Nat) ∧ ∀ k, 0 ≤ dr21 (L.take k) ∧ dr21 (L.take k) ≤ a.length := by
  refine ⟨?_, fun k => ?_⟩
  · obtain ⟨m, hm⟩ := ftS_some L.length hf
    have h1 := apS_dr a L.length L m hm
    have h2 := apS_len a L.length L m hm
    rw [List.take_of_length_le (Nat.le_refl _)] at h1 h2
    unfold apL
    rw [if_pos hf, List.length_append]
    push_cast
    omega
  · obtain ⟨m, hm⟩ := ftS_some k hf
    have h1 := apS_dr a k L m hm
    have h2 := ftS_bd (Int.natCast_nonneg a.length) _ _ hm
    omega
end Go.Proofs.YtiachojhnbicaaaDoor
namespace Go.Proofs.YtiachojhnbicaaaDoor
open Go.RowKit
set_option linter.unusedSimpArgs false
set_option linter.unusedVariables false

theorem kn21_ne : ¬ ([97, 98, 99, 100, 101] : List Nat) = [97, 98, 88, 101] := by decide
theorem kn21_P : dfP [97, 98, 99, 100, 101] [97, 98, 88, 101] = ⟨2, 2, [88]⟩ := by rfl
set_option maxRecDepth 100000 in
set_option maxHeartbeats 8000000 in
theorem known21 (w : World) :
    Calls Tryd.prog 7 #[] w fun e w' => e = .returned (.bool true) ∧ Below w.heap.size w w' := by
  have kc1 := Go.Joins.run_convert_bytes_const_at (P := Tryd.prog) w 22 5 #[.int .u8 97, .int .u8 98, .int .u8 99, .int .u8 100, .int .u8 101] 5 5 w.heap.size rfl Tryd.underlying22 Tryd.underlying5
  have q1 := bl1 w (.cells #[.int .u8 97, .int .u8 98, .int .u8 99, .int .u8 100, .int .u8 101] 5 (5, 6))
  have o1 := lit_rwx (f := cB) w #[.int .u8 97, .int .u8 98, .int .u8 99, .int .u8 100, .int .u8 101] 5 (5, 6) [97, 98, 99, 100, 101] rfl
  obtain ⟨w1, hw1⟩ : ∃ w1, w1 = w.alloc (.cells #[.int .u8 97, .int .u8 98, .int .u8 99, .int .u8 100, .int .u8 101] 5 (5, 6)) := ⟨_, rfl⟩
  have kc2 := Go.Joins.run_convert_bytes_const_at (P := Tryd.prog) w1 22 5 #[.int .u8 97, .int .u8 98, .int .u8 88, .int .u8 101] 4 4 (w.heap.size + 1) (by rw [hw1]; simp) Tryd.underlying22 Tryd.underlying5
  rw [hw1] at kc2
  rw [← hw1] at q1 o1
  have q2 := bl1 w1 (.cells #[.int .u8 97, .int .u8 98, .int .u8 88, .int .u8 101] 5 (4, 5))
  have o2 := lit_rwx (f := cB) w1 #[.int .u8 97, .int .u8 98, .int .u8 88, .int .u8 101] 5 (4, 5) [97, 98, 88, 101] rfl
  obtain ⟨w2, hw2⟩ : ∃ w2, w2 = w1.alloc (.cells #[.int .u8 97, .int .u8 98, .int .u8 88, .int .u8 101] 5 (4, 5)) := ⟨_, rfl⟩
  rw [← hw2] at q2 o2
  have o1' := o1.below q2
  have K1 := diff21 _ _ [97, 98, 99, 100, 101] [97, 98, 88, 101] w2 o1' o2 (o1'.row (fun h => by cases h)) (o2.row (fun h => by cases h)) (by decide) (by decide) (by decide) (by decide)
  have HQ : Hid (Below w.heap.size w w2) := keepb q2 q1
  have HW : Hid (w2 = (w.alloc (.cells #[.int .u8 97, .int .u8 98, .int .u8 99, .int .u8 100, .int .u8 101] 5 (5, 6))).alloc (.cells #[.int .u8 97, .int .u8 98, .int .u8 88, .int .u8 101] 5 (4, 5))) := by rw [hw2, hw1]; rfl
  have hsz : w1.heap.size = w.heap.size + 1 := by rw [hw1]; simp
  rw [hsz] at K1
  clear q1 q2 o1 o2 o1' hw1 hw2 hsz
  go_enter Tryd.func7, Tryd.ntmps7
  go_wp2_with fail
  rw [← HW.out]
  refine K1.mono ?_
  rintro e w3 ⟨v3, rfl, hd, hb3⟩
  have HB3 : Hid (Below w.heap.size w w3) := keepb hb3 HQ.out
  unfold DfO at hd
  rw [if_neg kn21_ne, kn21_P] at hd
  obtain ⟨z, vx, rfl, h1, h2, -⟩ := hd
  have c0 : w3.cell? ⟨z, 0, none⟩ = some (.int .i64 2) := (h1.cellAt 0 (by decide)).trans rfl
  have c1 : w3.cell? ⟨z, 1, none⟩ = some (.int .i64 2) := (h1.cellAt 1 (by decide)).trans rfl
  have c2 : w3.cell? ⟨z, 2, none⟩ = some vx := (h1.cellAt 2 (by decide)).trans rfl
  have cv := conv13 (own_rwx h2) (by decide)
  obtain ⟨xo, xc, hvx⟩ := own_form h2
  subst hvx
  dsimp only at cv c2
  rw [show ([88] : List Nat).length = 1 from rfl] at cv c2
  have hbq : ((bsA [88]).toList == [88]) = true := by rw [bsA_list]; decide
  generalize bsA [88] = st at *
  clear h1 h2 hb3 HQ K1 HW kc1 kc2
  go_wp2
  go_ret
  exact ⟨by first | rfl | decide, HB3.out⟩
end Go.Proofs.YtiachojhnbicaaaDoor
