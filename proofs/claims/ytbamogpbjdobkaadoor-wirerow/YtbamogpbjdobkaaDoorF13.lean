/-
  What package wire's same, wordsOf and set do.
-/
import Derived.Test.YtbamogpbjdobkaaDoorR13
import Derived.Defers
import Derived.Recover
namespace Go.Proofs.YtbamogpbjdobkaaDoor
open Go.RowKit
set_option linter.unusedSimpArgs false
set_option linter.unusedVariables false

theorem Tryd.infoU13 : (Tryd.prog.info? 42).map (fun i => (i.zero, i.size, i.bytes)) = some (some (.int .u32 0), 1, 4) := by kernel_rfl
theorem info13 {P : Program} {t : TypeId} {z : Value} {s b : Nat} (h : (P.info? t).map (fun i => (i.zero, i.size, i.bytes)) = some (some z, s, b)) : ∃ i, P.info? t = some i ∧ i.zero = some z ∧ i.size = s ∧ i.bytes = b := by
  cases hi : P.info? t with
  | none => rw [hi] at h; cases h
  | some i =>
    rw [hi] at h
    simp only [Option.map_some, Option.some.injEq, Prod.mk.injEq] at h
    exact ⟨i, rfl, h.1, h.2.1, h.2.2⟩
theorem own_b13 {base e size n : Nat} {v : Value} {xs : List Value} {W w' : World} (hb : Below W.heap.size W w') (h : W.ownsRow base e size v n xs) : w'.ownsRow base e size v n xs := by
  refine h.kept (row := none) ⟨hb.os, hb.tape, hb.output, hb.size, fun k hk _ => hb.block k hk⟩ ?_
  cases v.ownBlock with
  | none => exact Or.inl rfl
  | some a => exact Or.inr (by simp)
theorem news13 {W : World} {N : Nat} {v : Value} (h : W.cell? ⟨N, 0, none⟩ = some v) : ∀ j u, [v][j]? = some u → W.cell? ((⟨N, 0, none⟩ : Addr).add j) = some u := by
  intro j u hj
  rw [addA, Nat.zero_add]
  match j, hj with
  | 0, hj => simp at hj; subst hj; exact h
theorem catch13 (p : Addr) (w : World) :
    CallsD Tryd.prog 23 #[.pointer (some p)] .returning w fun e u' w' => e = .returned (.tuple #[]) ∧ u' = .returning ∧ w' = w := by
  refine callsD_of_wpS Tryd.func23 rfl fun c₀ cs hu => ?_
  apply wpS_seq
  apply wpS_region
  simp [wpOpsS, go_sem, recoverD, hu, Tryd.ntmps23, Exit.thenS]
  refine wpS_cond (t := false) (by simp [Act.eval, Array.replicate]) ?_
  simp only [Bool.false_eq_true, if_false]
  refine wpS_of_wp (wp_skip ?_)
  cases c₀
  simp_all [bodyPostS, results, Tryd.results23]
theorem sameI_any (a b : Int) (w : World) :
    Calls Tryd.prog 14 #[.int .i64 a, .int .i64 b] w fun e w' => e = .returned (.bool (a == b)) ∧ Below w.heap.size w w' := by
  have hmf : ∀ (fn : Fn) (first cap : Array Value) (w : World), (Instr.makeFunc fn first cap).run Tryd.prog w = .ok (.func fn first cap) w := fun _ _ _ _ => rfl
  go_enter_defers Tryd.func14, Tryd.ntmps14
  go_wp2
  refine leaves_cons (f := 23) (args := #[.pointer (some ⟨w.heap.size, 0, none⟩)]) (by simp) (by simp [go_sem]) ?_
  refine (catch13 ⟨w.heap.size, 0, none⟩ _).mono ?_
  rintro e u' w'' ⟨rfl, rfl, rfl⟩
  have hb : Below w.heap.size w (w.alloc (.cells #[.bool (a == b)] 4)) := bl1 w _
  simp [Leaves, settle, results, Tryd.results14, go_sem]
  exact hb
theorem words13 (n : Nat) (h : n ≤ 9223372036854775807) (w : World) :
    Calls Tryd.prog 13 #[.int .i64 (n : Int)] w fun e w' => e = .returned (.int .i64 (((n + 31) / 32 : Nat) : Int)) ∧ w' = w := by
  have h1 : Hid ((n : Int) % 32 = ((n % 32 : Nat) : Int)) := by show (n : Int) % 32 = ((n % 32 : Nat) : Int); omega
  by_cases c : n % 32 = 0
  · have c1 : ((n : Int) % 32 != 0) = false := by simp; omega
    have HE : Hid ((n : Int) / 32 = (((n + 31) / 32 : Nat) : Int)) := by show (n : Int) / 32 = (((n + 31) / 32 : Nat) : Int); omega
    clear h1 c
    go_enter Tryd.func13, Tryd.ntmps13
    go_wp2
    go_ret
    exact ⟨congrArg Ending.returned (congrArg (Value.int .i64) HE.out), rfl⟩
  · have c1 : ((n : Int) % 32 != 0) = true := by simp; omega
    have HE : Hid ((n : Int) / 32 + 1 = (((n + 31) / 32 : Nat) : Int)) := by show (n : Int) / 32 + 1 = (((n + 31) / 32 : Nat) : Int); omega
    clear h1 c
    go_enter Tryd.func13, Tryd.ntmps13
    go_wp2
    go_ret
    exact ⟨congrArg Ending.returned (congrArg (Value.int .i64) HE.out), rfl⟩
theorem shrOne (k : Nat) (h : k < 32) : (2147483648 : Int) / 2 ^ k = uI (cOne >>> k) := by
  rw [← shr32]
  congr 1
  exact lit32 2147483648 (by decide)
set_option maxRecDepth 100000 in
theorem set_any (g n cc i : Nat) (x : BitVec 32) (w : World) (hi : i < n * 32) (hn : n ≤ 140737488355328) (hc : w.cell? ⟨g, i / 32, none⟩ = some (.int .u32 (uI x))) (hf : w.frozen? ⟨g, i / 32, none⟩ = false) :
    Calls Tryd.prog 15 #[.slice (some ⟨g, 0, none⟩) n cc, .int .i64 (i : Int)] w fun e w' => e = .returned (.tuple #[]) ∧ w' = (w.setCell ⟨g, i / 32, none⟩ (.int .u32 (uI (x ||| (cOne >>> (i % 32)))))).drew := by
  obtain ⟨q, hq⟩ : ∃ q, q = i / 32 := ⟨_, rfl⟩
  obtain ⟨r, hr⟩ : ∃ r, r = i % 32 := ⟨_, rfl⟩
  rw [← hq] at hc hf ⊢
  rw [← hr]
  have hq1 : (i : Int) / 32 = (q : Int) := by omega
  have hr1 : (i : Int) % 32 = (r : Int) := by omega
  have hqn : ((q : Nat) : Int) < (n : Int) := by omega
  have hr32 : r < 32 := by omega
  have hsh := shrOne r hr32
  have hor := or32 x (cOne >>> r)
  clear hq hr
  go_enter Tryd.func15, Tryd.ntmps15
  go_wp2
  go_region
  exact bodyPost_end (by simp [results, Tryd.results15]) rfl ⟨rfl, rfl⟩
end Go.Proofs.YtbamogpbjdobkaaDoor
