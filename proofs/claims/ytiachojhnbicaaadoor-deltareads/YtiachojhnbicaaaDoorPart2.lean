/-
  Part 2 of the proof: 17 texts, one behind the other.
-/
import Derived.Test.YtiachojhnbicaaaDoorPart1
import Derived.Lib.SlBytesConst
import Derived.Deep.QuietTactic
import Derived.BigQuiet
import Derived.Laws.IdiomStrings
import Derived.OrdersIn
import Derived.TacticsIn
import Derived.RangeFuncSeq
import Derived.RangeFuncNested
import Derived.RangeFuncBound
import Derived.RangeFuncCalls
import Derived.RangeFuncLeaves
import Derived.Shelf.Abstract
import Derived.Shelf.RegionOpen
import Derived.WalkKit
import Derived.OwnWalkIn
import Derived.TacticsInMore
import Derived.LoopNIn
import Derived.LoopIn
namespace Go.Proofs.YtiachojhnbicaaaDoor
open Go.RowKit
set_option linter.unusedSimpArgs false
set_option linter.unusedVariables false

theorem lit_rwx {α : Type} {f : α → Value} (w : World) (cs : Array Value) (T : TypeId) (fr : Nat × Nat) (l : List α) (h : cs.toList = l.map f) : RwX f (w.alloc (.cells cs T fr)) (.slice (some ⟨w.heap.size, 0, none⟩) l.length l.length) l := by
  refine ⟨_, _, rfl, Nat.le_refl _, .inr ⟨w.heap.size, 0, rfl, fun j x hj => ?_⟩⟩
  have e : (w.alloc (.cells cs T fr)).heap[w.heap.size]? = some (.cells cs T fr) := by
    show (w.heap.push _)[w.heap.size]? = _
    simp
  have hc : cs[j]? = some (f x) := by
    rw [← Array.getElem?_toList, h, List.getElem?_map, hj]; rfl
  rw [Nat.zero_add]
  rw [cell_of_row _ _ _ _ _ _ e]; exact hc
end Go.Proofs.YtiachojhnbicaaaDoor
namespace Go.Proofs.YtiachojhnbicaaaDoor
open Go.RowKit
set_option linter.unusedSimpArgs false
set_option linter.unusedVariables false

theorem q_run {P : Program} {ops : Array Oper} {C : World → Prop} {Q : Act → Prop} {a : Act} {o : Oper} {rest : List Oper} {v : Value}
    (hw : Region.wanted o (yielded ops a.tmps) = true) (h : ∀ w, C w → (execOp a.eval o).run P w = .ok (.value v) w) (k : wpQuiet P ops C Q rest (a.put o.dst v)) : wpQuiet P ops C Q (o :: rest) a := by
  refine wpQuiet_step (fun K hK => ?_)
  rw [if_pos hw]
  refine ⟨v, fun w hC => ?_, hK _ k⟩
  unfold Oper.quietAt; rw [h w hC]; exact ⟨rfl, rfl⟩
theorem q_region {P : Program} {C : World → Prop} {id : Nat} {Q : Exit → Act → World → Prop} {a : Act} {w : World} {l : List Oper} (hm : P.follows .mixedOrders = true) (hB : Region.lexB .any l.toArray = true) (hC : C w.drew)
    (h : wpQuiet P l.toArray C (fun a' => ∀ w', C w' → Q .normal a' w') l a) : (Code.region id l.toArray true).wp P Q a w :=
  wp_region_quiet (C := C) hm hB hC (by simpa using h)
end Go.Proofs.YtiachojhnbicaaaDoor
namespace Go.Proofs.YtiachojhnbicaaaDoor
open Go.RowKit
set_option linter.unusedSimpArgs false
set_option linter.unusedVariables false

structure QW (P : Program) (ops : Array Oper) (C : World → Prop) (Q : Act → Prop) (l : List Oper) (a : Act) : Prop where
  out : wpQuiet P ops C Q l a
theorem qw_run {P : Program} {ops : Array Oper} {C : World → Prop} {Q : Act → Prop} {a : Act} {o : Oper} {rest : List Oper} {v : Value}
    (hw : Region.wanted o (yielded ops a.tmps) = true) (h : ∀ w, C w → (execOp a.eval o).run P w = .ok (.value v) w) (k : QW P ops C Q rest (a.put o.dst v)) : QW P ops C Q (o :: rest) a := ⟨q_run hw h k.out⟩
theorem qw_nil {P : Program} {ops : Array Oper} {C : World → Prop} {Q : Act → Prop} {a : Act} (h : Q a) : QW P ops C Q [] a := ⟨wpQuiet_nil h⟩
theorem qw_region {P : Program} {C : World → Prop} {id : Nat} {Q : Exit → Act → World → Prop} {a : Act} {w : World} {l : List Oper} (hm : P.follows .mixedOrders = true) (hB : Region.lexB .any l.toArray = true) (hC : C w.drew)
    (h : QW P l.toArray C (fun a' => ∀ w', C w' → Q .normal a' w') l a) : (Code.region id l.toArray true).wp P Q a w := q_region hm hB hC h.out
end Go.Proofs.YtiachojhnbicaaaDoor
namespace Go.Proofs.YtiachojhnbicaaaDoor
open Go.RowKit
set_option linter.unusedSimpArgs false
set_option linter.unusedVariables false

def numN13 (l : List Nat) : Nat := l.foldl (fun v b => v * 256 + b) 0
def gtN (l : List Nat) (n : Int) (k : Nat) : Nat := if 0 ≤ n ∧ n ≤ (l.length : Int) - k then numN13 ((l.drop n.toNat).take k) else 0
def gtE (l : List Nat) (n : Int) (k : Nat) : Int := if 0 ≤ n ∧ n ≤ (l.length : Int) - k then 0 else 30
theorem take4_of {l : List Nat} {j a b c d : Nat} (h0 : l[j + 0]? = some a) (h1 : l[j + 1]? = some b) (h2 : l[j + 2]? = some c) (h3 : l[j + 3]? = some d) : (l.drop j).take 4 = [a, b, c, d] := by
  apply List.ext_getElem?
  intro i
  rw [List.getElem?_take]
  match i with
  | 0 => simpa using h0
  | 1 => simpa using h1
  | 2 => simpa using h2
  | 3 => simpa using h3
  | i + 4 => rw [if_neg (by omega)]; rfl
theorem stand_any (ao : Option Addr) (m cc : Nat) (n k : Int) (w : World) (hk : 0 ≤ k ∧ k ≤ 100) (hm : m ≤ 140737488355328) :
    Calls Tryd.prog 52 #[.slice ao m cc, .int .i64 n, .int .i64 k] w fun e w' => e = .returned (.bool (decide (0 ≤ n) && decide (n ≤ (m : Int) - k))) ∧ w' = w := by
  have hw : IntKind.i64.wrap ((m : Int) - k) = (m : Int) - k := by rw [IntKind.wrap_i64]; omega
  by_cases h : 0 ≤ n
  · go_enter Tryd.func52, Tryd.ntmps52
    go_wp2
    go_ret
    exact ⟨by rw [decide_eq_true h]; rfl, rfl⟩
  · go_enter Tryd.func52, Tryd.ntmps52
    go_wp2
    go_ret
    exact ⟨by rw [decide_eq_false (by omega : ¬ 0 ≤ n)]; rfl, rfl⟩
theorem orN32 (A B i : Nat) (hA : A % 2 ^ i = 0) (hB : B < 2 ^ i) (h : A + B < 4294967296) (x y : Int) (hx : x = (A : Int)) (hy : y = (B : Int)) : bits .or .u32 x y = ((A + B : Nat) : Int) := by
  subst hx hy
  unfold bits
  simp only [IntKind.bits]
  have e : (BitVec.ofInt 32 (A : Int) ||| BitVec.ofInt 32 (B : Int)).toNat = A + B := by
    rw [BitVec.toNat_or]
    have e1 : (BitVec.ofInt 32 (A : Int)).toNat = A := by rw [BitVec.toNat_ofInt]; omega
    have e2 : (BitVec.ofInt 32 (B : Int)).toNat = B := by rw [BitVec.toNat_ofInt]; omega
    rw [e1, e2]
    have e3 : A = (A / 2 ^ i) <<< i := by
      rw [Nat.shiftLeft_eq]
      have := Nat.div_add_mod A (2 ^ i)
      rw [hA, Nat.mul_comm] at this
      omega
    rw [e3, ← Nat.shiftLeft_add_eq_or_of_lt hB]
  show IntKind.wrap .u32 (((BitVec.ofInt 32 (A : Int) ||| BitVec.ofInt 32 (B : Int)).toNat : Nat) : Int) = _
  rw [e]
  simp [IntKind.wrap, IntKind.bits, IntKind.signed]
  omega
set_option maxRecDepth 100000 in
set_option maxHeartbeats 8000000 in
theorem get32_any (v : Value) (l : List Nat) (n : Int) (w : World) (hv : RwX cB w v l) (hl : l.length ≤ 140737488355328) (hx : ∀ b ∈ l, b < 256) (h0 : -9223372036854775808 ≤ n) (h1 : n ≤ 9223372036854775807) :
    Calls Tryd.prog 50 #[v, .int .i64 n] w fun e w' => e = .returned (.tuple #[.int .u32 ((gtN l n 4 : Nat) : Int), .int .i64 (gtE l n 4)]) ∧ Below w.heap.size w w' := by
  obtain ⟨ao, cc, rfl, hc, hv⟩ := hv
  by_cases h : 0 ≤ n ∧ n ≤ (l.length : Int) - ((4 : Nat) : Int)
  · unfold gtN gtE
    rw [if_pos h, if_pos h]
    obtain ⟨j, rfl⟩ : ∃ j : Nat, n = (j : Int) := ⟨n.toNat, by omega⟩
    have hj : j + 4 ≤ l.length := by omega
    obtain ⟨bo, off, rfl, hcell⟩ : ∃ bo off, ao = some ⟨bo, off, none⟩ ∧ ∀ j x, l[j]? = some x → w.cell? ⟨bo, off + j, none⟩ = some (cB x) := by
      rcases hv with h | h
      · rw [h] at hj; simp at hj
      · exact h
    obtain ⟨b0, g0⟩ : ∃ x, l[j + 0]? = some x := ⟨l[j + 0]'(by omega), by simp [show j + 0 < l.length by omega]⟩
    obtain ⟨b1, g1⟩ : ∃ x, l[j + 1]? = some x := ⟨l[j + 1]'(by omega), by simp [show j + 1 < l.length by omega]⟩
    obtain ⟨b2, g2⟩ : ∃ x, l[j + 2]? = some x := ⟨l[j + 2]'(by omega), by simp [show j + 2 < l.length by omega]⟩
    obtain ⟨b3, g3⟩ : ∃ x, l[j + 3]? = some x := ⟨l[j + 3]'(by omega), by simp [show j + 3 < l.length by omega]⟩
    have HN : Hid (numN13 ((l.drop (j : Int).toNat).take 4) = (((b0 * 256 + b1) * 256 + b2) * 256 + b3)) := by
      show _ = _
      rw [Int.toNat_natCast, take4_of g0 g1 g2 g3]
      unfold numN13
      simp
    have r0 : w.cell? ⟨bo, off + j, none⟩ = some (.int .u8 (b0 : Int)) := hcell (j + 0) b0 g0
    have s0 : ((b0 : Nat) : Int) < 256 := by have := hx b0 (List.mem_of_getElem? g0); omega
    have r1 : w.cell? ⟨bo, off + (j + 1), none⟩ = some (.int .u8 (b1 : Int)) := hcell (j + 1) b1 g1
    have s1 : ((b1 : Nat) : Int) < 256 := by have := hx b1 (List.mem_of_getElem? g1); omega
    have r2 : w.cell? ⟨bo, off + (j + 2), none⟩ = some (.int .u8 (b2 : Int)) := hcell (j + 2) b2 g2
    have s2 : ((b2 : Nat) : Int) < 256 := by have := hx b2 (List.mem_of_getElem? g2); omega
    have r3 : w.cell? ⟨bo, off + (j + 3), none⟩ = some (.int .u8 (b3 : Int)) := hcell (j + 3) b3 g3
    have s3 : ((b3 : Nat) : Int) < 256 := by have := hx b3 (List.mem_of_getElem? g3); omega
    have l1 : (j : Int) + 1 < (l.length : Int) := by omega
    have l2 : (j : Int) + 2 < (l.length : Int) := by omega
    have l3 : (j : Int) + 3 < (l.length : Int) := by omega
    have lj : (j : Int) < (l.length : Int) := by omega
    have hdt : (decide (0 ≤ (j : Int)) && decide ((j : Int) ≤ (l.length : Int) - 4)) = true := by simp; omega
    have hle : (j : Int) ≤ (l.length : Int) - 4 := by omega
    have hst : (0 : Int) ≤ (j : Int) := by omega
    have HS : Hid (Below w.heap.size w w) := Below.refl _ _
    clear hv h hcell hx hc
    go_enter Tryd.func50, Tryd.ntmps50
    go_wp2_with (go_at_call 52; refine (stand_any _ l.length cc (j : Int) 4 _ (by omega) hl).mono ?_; rw [hdt]; rintro e w1 ⟨rfl, hw1⟩; replace hw1 := hw1.symm; subst hw1)
    go_quiet (fail)
    have HB : Hid (Below w.heap.size w (w.drewN nq)) := below_drewN (Below.refl _ _) nq
    have o1 : bits .or .u32 ((b0 : Int) * 16777216) ((b1 : Int) * 65536) = ((b0 * 16777216 + b1 * 65536 : Nat) : Int) := orN32 (b0 * 16777216) (b1 * 65536) 24 (by omega) (by omega) (by omega) _ _ (by omega) (by omega)
    have o2 : bits .or .u32 ((b0 * 16777216 + b1 * 65536 : Nat) : Int) ((b2 : Int) * 256) = ((b0 * 16777216 + b1 * 65536 + b2 * 256 : Nat) : Int) := orN32 (b0 * 16777216 + b1 * 65536) (b2 * 256) 16 (by omega) (by omega) (by omega) _ _ rfl (by omega)
    have o3 : bits .or .u32 ((b0 * 16777216 + b1 * 65536 + b2 * 256 : Nat) : Int) (b3 : Int) = ((((b0 * 256 + b1) * 256 + b2) * 256 + b3 : Nat) : Int) := by
      rw [orN32 (b0 * 16777216 + b1 * 65536 + b2 * 256) b3 8 (by omega) (by omega) (by omega) _ _ rfl rfl]
      omega
    rw [o1, o2, o3]
    clear o1 o2 o3
    go_wp2
    exact bodyPost_ret (v := .tuple #[.int .u32 (((((b0 * 256 + b1) * 256 + b2) * 256 + b3) : Nat) : Int), .int .i64 0]) (by simp [results, Tryd.results50, go_sem]) rfl ⟨by rw [HN.out], HB.out⟩
  · unfold gtN gtE
    rw [if_neg h, if_neg h]
    replace h : ¬ (0 ≤ n ∧ n ≤ (l.length : Int) - 4) := h
    have hd : (decide (0 ≤ n) && decide (n ≤ (l.length : Int) - 4)) = false := by
      rw [← Bool.decide_and]; exact decide_eq_false h
    go_enter Tryd.func50, Tryd.ntmps50
    go_wp2_with (go_at_call 52; refine (stand_any ao l.length cc n 4 _ (by omega) (by omega)).mono ?_; rintro e w1 ⟨rfl, hw1⟩; replace hw1 := hw1.symm; subst hw1)
    exact bodyPost_ret (v := .tuple #[.int .u32 0, .int .i64 30]) (by simp [results, Tryd.results50, go_sem]) rfl ⟨rfl, Below.refl _ _⟩
end Go.Proofs.YtiachojhnbicaaaDoor
namespace Go.Proofs.YtiachojhnbicaaaDoor
open Go.RowKit
set_option linter.unusedSimpArgs false
set_option linter.unusedVariables false

def bsA (l : List Nat) : ByteArray := ⟨(l.map UInt8.ofNat).toArray⟩
theorem conv13 {W : World} {v : Value} {l : List Nat} (h : RwX cB W v l) (hb : ∀ b ∈ l, b < 256) : (convert 22 9 v).run Tryd.prog W = .ok (.string (bsA l)) W := by
  obtain ⟨ao, c, rfl, -, h⟩ := h
  by_cases hz : l = []
  · subst hz
    cases ao with
    | none =>
      rw [run_convert_bytes_string W 22 9 5 none _ _ Tryd.underlying22 Tryd.underlying5 Tryd.underlying9]
      rfl
    | some a =>
      exact run_convert_bytes_back W 22 9 5 a c [] Tryd.underlying22 Tryd.underlying5 Tryd.underlying9 (fun j hj => absurd hj (Nat.not_lt_zero _))
  · rcases h with h | ⟨b, off, rfl, h⟩
    · exact absurd h hz
    · have := run_convert_bytes_back (P := Tryd.prog) W 22 9 5 ⟨b, off, none⟩ c (l.map UInt8.ofNat) Tryd.underlying22 Tryd.underlying5 Tryd.underlying9 (fun j hj => by
        have hj' : j < l.length := by simpa using hj
        rw [addA, h j l[j] (by simp [hj'])]
        have hlt := hb l[j] (List.getElem_mem hj')
        rw [List.getElem_map]
        unfold cB
        rw [UInt8.toNat_ofNat', Nat.mod_eq_of_lt hlt])
      rw [List.length_map] at this
      exact this
theorem rwx_take {α : Type} {f : α → Value} {W : World} {ao : Option Addr} {n c : Nat} {l m : List α} (h : RwX f W (.slice ao n c) (l ++ m)) : RwX f W (.slice ao l.length c) l := by
  obtain ⟨ao', c', e, hc, h⟩ := h
  injection e with e1 e2 e3
  subst e1 e3
  refine ⟨ao, c, rfl, by rw [List.length_append] at hc; omega, ?_⟩
  by_cases hz : l = []
  · exact .inl hz
  rcases h with h | ⟨b, off, e, h⟩
  · exact absurd (List.append_eq_nil_iff.1 h).1 hz
  · refine .inr ⟨b, off, e, fun j x hj => h j x ?_⟩
    rw [List.getElem?_append_left (List.getElem?_eq_some_iff.1 hj).1]; exact hj
end Go.Proofs.YtiachojhnbicaaaDoor
namespace Go.Proofs.YtiachojhnbicaaaDoor
set_option linter.unusedSimpArgs false
set_option linter.unusedVariables false

end Go.Proofs.YtiachojhnbicaaaDoor
namespace Go.Proofs.YtiachojhnbicaaaDoor
open Go.RowKit
set_option linter.unusedSimpArgs false
set_option linter.unusedVariables false

section
variable {P : Program}

theorem put_size (a : Act) (dst : Option Tmp) (v : Value) : (a.put dst v).tmps.size = a.tmps.size := by
  unfold Act.put; cases dst <;> simp
theorem put_other (a : Act) (dst : Option Tmp) (v : Value) (s : Nat) (h : dst ≠ some s) : (a.put dst v).tmps[s]? = a.tmps[s]? := by
  unfold Act.put
  cases dst with
  | none => rfl
  | some d =>
    have : d ≠ s := fun e => h (by rw [e])
    simp [Array.getElem?_setIfInBounds, this]
def rep (l : List Oper) (j : Nat) (N : Value) : List Oper := l.modify j fun o => { o with op := .assign (.const N) }
theorem rep_same (l : List Oper) (j : Nat) (N : Value) (i : Nat) : ((rep l j N)[i]?).map (fun o => (o.dst, o.after, o.guard)) = (l[i]?).map (fun o => (o.dst, o.after, o.guard)) := by
  unfold rep
  rw [List.getElem?_modify]
  cases l[i]? <;> simp
  split <;> simp
theorem rep_of (l : List Oper) (j : Nat) (N : Value) (i : Nat) (o : Oper) (h : l[i]? = some o) : ∃ o', (rep l j N)[i]? = some o' ∧ o'.dst = o.dst ∧ o'.after = o.after ∧ o'.guard = o.guard := by
  have := rep_same l j N i
  rw [h] at this
  cases e : (rep l j N)[i]? with
  | none => rw [e] at this; simp at this
  | some o' => rw [e] at this; simp at this; exact ⟨o', rfl, this.1, this.2.1, this.2.2⟩
def seqB (md : Region.Mode) (ops : Array Oper) : Nat → Nat → Array Bool → Bool
  | 0, _, listed => Region.ready md ops listed == []
  | f + 1, k, listed => (Region.ready md ops listed == [k]) && seqB md ops f (k + 1) (listed.setIfInBounds k true)
theorem get_app_lt (lp : Array Bool) (p i : Nat) (h : i < lp.size) (d : Bool) : (lp ++ Array.replicate p false).getD i d = lp.getD i d := by
  simp [Array.getElem?_append, h]
theorem get_app_false (lp : Array Bool) (p i : Nat) : (lp ++ Array.replicate p false).getD i false = lp.getD i false := by
  by_cases h : i < lp.size
  · exact get_app_lt lp p i h false
  · simp [Array.getElem?_append, h, Array.getElem?_replicate]
    split <;> rfl
def unl (lp : Array Bool) : Nat := lp.toList.count false
theorem count_set : ∀ (l : List Bool) (i : Nat), l[i]? = some false → (l.set i true).count false + 1 = l.count false := by
  intro l
  induction l with
  | nil => intro i h; simp at h
  | cons b l ih =>
    intro i h
    cases i with
    | zero => simp at h; subst h; simp
    | succ i =>
      have := ih i (by simpa using h)
      simp only [List.set_cons_succ, List.count_cons]
      omega
theorem unl_set (lp : Array Bool) (i : Nat) (h : lp.getD i true = false) : unl (lp.setIfInBounds i true) + 1 = unl lp := by
  unfold unl
  rw [Array.toList_setIfInBounds]
  apply count_set
  rw [Array.getElem?_toList]
  cases e : lp[i]? with
  | none => rw [Array.getD_eq_getD_getElem?, e] at h; simp at h
  | some b => rw [Array.getD_eq_getD_getElem?, e] at h; simp at h; rw [h]
theorem unl_zero (lp : Array Bool) (h : unl lp = 0) : lp = Array.replicate lp.size true := by
  unfold unl at h
  rw [List.count_eq_zero] at h
  apply Array.ext
  · simp
  · intro i h1 h2
    simp
    cases e : lp[i] with
    | true => rfl
    | false => exact absurd (by rw [← e]; simp) h
theorem unl_some (lp : Array Bool) (f : Nat) (h : unl lp = f + 1) : ∃ k, k < lp.size ∧ lp.getD k true = false := by
  unfold unl at h
  have : false ∈ lp.toList := List.count_pos_iff.mp (by omega)
  obtain ⟨k, hk, e⟩ := List.getElem_of_mem this
  have hk' : k < lp.size := by simpa using hk
  exact ⟨k, hk', by rw [Array.getD_eq_getD_getElem?]; simp [hk']; simpa using e⟩
def waitB (l : List Oper) (m : Nat) : Bool := (l.drop m).all fun o => (List.range m).all fun k => o.after.any fun e => Region.binds .any e && e.on == k
theorem ready_pre (l : List Oper) (m j : Nat) (N : Value) (hml : m ≤ l.length) (hw : waitB l m = true) (lp : Array Bool) (hs : lp.size = m) (f : Nat) (hu : unl lp = f + 1) (i : Nat)
    (hi : i ∈ Region.ready .any l.toArray (lp ++ Array.replicate (l.length - m) false)) : i < m ∧ i ∈ Region.ready .any (rep (l.take m) j N).toArray lp := by
  obtain ⟨hun, o, ho, hall⟩ := mem_ready.1 hi
  have ho' : l[i]? = some o := by simpa using ho
  have him : i < m := by
    apply Classical.byContradiction
    intro c
    obtain ⟨k, hk, hf⟩ := unl_some lp f hu
    have hmem : o ∈ l.drop m := by
      have : (l.drop m)[i - m]? = some o := by rw [List.getElem?_drop, show m + (i - m) = i by omega]; exact ho'
      exact List.mem_of_getElem? this
    have h1 := List.all_eq_true.mp hw o hmem
    have h2 := List.all_eq_true.mp h1 k (List.mem_range.mpr (by omega))
    obtain ⟨e, he, heq⟩ := Array.any_eq_true'.mp h2
    simp only [Bool.and_eq_true, beq_iff_eq] at heq
    have h3 := hall e he heq.1
    rw [heq.2, get_app_false] at h3
    rw [Array.getD_eq_getD_getElem?] at h3 hf
    cases q : lp[k]? with
    | none => rw [q] at h3; simp at h3
    | some b => rw [q] at h3 hf; simp at h3 hf; rw [h3] at hf; cases hf
  refine ⟨him, mem_ready.2 ⟨by rw [get_app_lt lp _ i (by omega)] at hun; exact hun, ?_⟩⟩
  obtain ⟨o', h1, h2, h3, h4⟩ := rep_of (l.take m) j N i o (by rw [List.getElem?_take, if_pos him]; exact ho')
  refine ⟨o', by simpa using h1, fun e he hb => ?_⟩
  rw [h3] at he
  have := hall e he hb
  rwa [get_app_false] at this

structure QpOk (l : List Oper) (m j : Nat) : Prop where
  ml : m ≤ l.length
  lex : ∀ N, Region.lexB .any (rep (l.take m) j N).toArray = true
  wait : waitB l m = true
  seq : seqB .any l.toArray (l.length - m) m (Array.replicate m true ++ Array.replicate (l.length - m) false) = true
  guards : ∀ (i : Nat) o, l[i]? = some o → ∀ k b, o.guard = some (k, b) → k < m
  edges : ∀ (i : Nat) o, l[i]? = some o → ∀ e ∈ o.after, Region.binds .any e = true → e.on < i
def guardsB (l : List Oper) (m : Nat) : Bool := l.all fun o => match o.guard with | some (k, _) => decide (k < m) | none => true
theorem guards_of {l : List Oper} {m : Nat} (h : guardsB l m = true) : ∀ (i : Nat) o, l[i]? = some o → ∀ k b, o.guard = some (k, b) → k < m := by
  intro i o ho k b hg
  have := List.all_eq_true.mp h o (List.mem_of_getElem? ho)
  rw [hg] at this
  simpa using this
def edgesB (l : List Oper) : Bool := (List.range l.length).all fun i => match l[i]? with | some o => o.after.all fun e => !Region.binds .any e || decide (e.on < i) | none => true
theorem edges_of {l : List Oper} (h : edgesB l = true) : ∀ (i : Nat) o, l[i]? = some o → ∀ e ∈ o.after, Region.binds .any e = true → e.on < i := by
  intro i o ho e he hb
  have hi : i < l.length := (List.getElem?_eq_some_iff.mp ho).1
  have h1 := List.all_eq_true.mp h i (List.mem_range.mpr hi)
  simp only [ho] at h1
  have := Array.all_eq_true_iff_forall_mem.1 h1 e he
  simpa [hb] using this
theorem qpOk {l : List Oper} (m j : Nat) (h1 : m ≤ l.length) (h2 : ∀ N, Region.lexB .any (rep (l.take m) j N).toArray = true) (h3 : waitB l m = true)
    (h4 : seqB .any l.toArray (l.length - m) m (Array.replicate m true ++ Array.replicate (l.length - m) false) = true) (h5 : guardsB l m = true) (h6 : edgesB l = true) : QpOk l m j :=
  ⟨h1, h2, h3, h4, guards_of h5, edges_of h6⟩
theorem erase_get (l l' : List Value) (d s : Nat) (h : l.eraseIdx d = l'.eraseIdx d) (hs : s ≠ d) : l[s]? = l'[s]? := by
  rcases Nat.lt_or_gt_of_ne hs with q | q
  · have := congrArg (fun x => x[s]?) h
    simpa [List.getElem?_eraseIdx, q] using this
  · have := congrArg (fun x => x[s - 1]?) h
    simp only [List.getElem?_eraseIdx] at this
    rw [if_neg (by omega), if_neg (by omega), show s - 1 + 1 = s by omega] at this
    exact this
theorem some_ready {l : List Oper} {m j : Nat} (ok : QpOk l m j) (lp : Array Bool) (hs : lp.size = m) : ∀ k, k < m → lp.getD k true = false → Region.ready .any l.toArray (lp ++ Array.replicate (l.length - m) false) ≠ [] := by
  intro k
  induction k using Nat.strongRecOn with
  | ind k ih =>
    intro hk hf hr
    have hkl : k < l.length := by have := ok.ml; omega
    by_cases c : ∀ e ∈ (l[k]).after, Region.binds .any e = true → (lp ++ Array.replicate (l.length - m) false).getD e.on false = true
    · have : k ∈ Region.ready .any l.toArray (lp ++ Array.replicate (l.length - m) false) := mem_ready.2 ⟨by rw [get_app_lt lp _ k (by omega)]; exact hf, l[k], by simp [hkl], c⟩
      rw [hr] at this
      cases this
    · simp only [Classical.not_forall] at c
      obtain ⟨e, he, hb, hn⟩ := c
      have hlt := ok.edges k l[k] (by simp [hkl]) e he hb
      rw [get_app_false] at hn
      refine ih e.on hlt (by omega) ?_ hr
      have hlt2 : e.on < lp.size := by omega
      rw [Array.getD_eq_getD_getElem?] at hn ⊢
      simp [hlt2] at hn ⊢
      exact hn
def putAll (a : Act) : List (Option Tmp) → List Value → Act
  | d :: ds, v :: vs => putAll (a.put d v) ds vs
  | _, _ => a
end
end Go.Proofs.YtiachojhnbicaaaDoor
namespace Go.Proofs.YtiachojhnbicaaaDoor
open Go.RowKit
set_option linter.unusedSimpArgs false
set_option linter.unusedVariables false

section
variable {P : Program}

end
end Go.Proofs.YtiachojhnbicaaaDoor
namespace Go.Proofs.YtiachojhnbicaaaDoor
open Go.RowKit Go.Shelf
set_option linter.unusedSimpArgs false
set_option linter.unusedVariables false

section
variable {P : Program}
structure Bk (B : Nat) (r : Loop) (W : World) : Prop where
  rec' : W.heap[B + 1]? = some (.loop r)
  dfr : W.heap[B]? = some (.deferred (some []))
theorem Bk.lt {B : Nat} {r : Loop} {W : World} (k : Bk B r W) : B + 1 < W.heap.size := (Array.getElem?_eq_some_iff.1 k.rec').1
theorem Bk.grown {B : Nat} {r : Loop} {W W' : World} {row : Option Nat} (k : Bk B r W) (h : W.grownBy W' row) (hr : ∀ z, row = some z → B + 2 ≤ z) : Bk B r W' := by
  have hl := k.lt
  exact ⟨(h.block _ hl (fun e => by have := hr _ e.symm; omega)).trans k.rec', (h.block _ (by omega) (fun e => by have := hr _ e.symm; omega)).trans k.dfr⟩
def KW (Z : Nat → Prop) (B : Nat) (W W' : World) : Prop := W.heap.size ≤ W'.heap.size ∧ ∀ (z : Nat) (o : Obj), W.heap[z]? = some o → (Z z ∨ B ≤ z) → W'.heap[z]? = some o
theorem KW.trans {Z : Nat → Prop} {B : Nat} {X Y V : World} (h : KW Z B X Y) (g : KW Z B Y V) : KW Z B X V := ⟨Nat.le_trans h.1 g.1, fun z o h1 h2 => g.2 z o (h.2 z o h1 h2) h2⟩
theorem KW.refl (Z : Nat → Prop) (B : Nat) (W : World) : KW Z B W W := ⟨Nat.le_refl _, fun _ _ h _ => h⟩
end
end Go.Proofs.YtiachojhnbicaaaDoor
namespace Go.Proofs.YtiachojhnbicaaaDoor
open Go.RowKit
set_option linter.unusedSimpArgs false
set_option linter.unusedVariables false

section
variable {P : Program}
structure Sim (b l : List Oper) (m : Nat) (E : Nat → Bool) : Prop where
  len : b.length = m
  same : ∀ i, i < m → ∀ o, l[i]? = some o → ∃ o', b[i]? = some o' ∧ o'.dst = o.dst ∧ o'.after = o.after ∧ o'.guard = o.guard ∧ (E i = false → o' = o)
theorem Sim.yield {b l : List Oper} {m : Nat} {E : Nat → Bool} (h : Sim b l m E) (hml : m ≤ l.length) (tmps : Array Value) (k : Nat) (hk : k < m) : yielded b.toArray tmps k = yielded l.toArray tmps k := by
  have hl : k < l.length := by omega
  obtain ⟨o2, q1, q2, -, -, -⟩ := h.same k hk l[k] (by simp [hl])
  unfold yielded
  simp only [List.getElem?_toArray, q1, List.getElem?_eq_getElem hl, Option.bind_some, q2]
theorem Sim.wanted {b l : List Oper} {m : Nat} {E : Nat → Bool} (h : Sim b l m E) (hml : m ≤ l.length) (a : Act) (o : Oper) (hlt : ∀ k c, o.guard = some (k, c) → k < m) : Region.wanted o (yielded b.toArray a.tmps) = Region.wanted o (yielded l.toArray a.tmps) := by
  unfold Region.wanted
  cases e : o.guard with
  | none => rfl
  | some kb =>
    obtain ⟨k, c⟩ := kb
    simp only
    rw [h.yield hml a.tmps k (hlt k c e)]
theorem Sim.ready {b l : List Oper} {m : Nat} {E : Nat → Bool} (h : Sim b l m E) (hml : m ≤ l.length) (hw : waitB l m = true) (lp : Array Bool) (hs : lp.size = m) (f : Nat) (hu : unl lp = f + 1) (i : Nat)
    (hi : i ∈ Region.ready .any l.toArray (lp ++ Array.replicate (l.length - m) false)) : i < m ∧ i ∈ Region.ready .any b.toArray lp := by
  obtain ⟨him, -⟩ := ready_pre l m m undef hml hw lp hs f hu i hi
  obtain ⟨hun, o, ho, hall⟩ := mem_ready.1 hi
  obtain ⟨o', q1, q2, q3, q4, -⟩ := h.same i him o (by simpa using ho)
  refine ⟨him, mem_ready.2 ⟨by rw [get_app_lt lp _ i (by omega)] at hun; exact hun, o', by simpa using q1, fun e he hb => ?_⟩⟩
  rw [q3] at he
  have := hall e he hb
  rwa [get_app_false] at this
theorem putAll_size : ∀ (ds : List (Option Tmp)) (vs : List Value) (a : Act), (putAll a ds vs).tmps.size = a.tmps.size
  | [], _, a => by cases ‹List Value› <;> rfl
  | d :: ds, [], a => rfl
  | d :: ds, v :: vs, a => by
    show (putAll (a.put d v) ds vs).tmps.size = _
    rw [putAll_size ds vs, put_size]
end
end Go.Proofs.YtiachojhnbicaaaDoor
namespace Go.Proofs.YtiachojhnbicaaaDoor
open Go.RowKit
set_option linter.unusedSimpArgs false
set_option linter.unusedVariables false

section
variable {P : Program}

theorem putAll_other : ∀ (ds : List (Option Tmp)) (vs : List Value) (a : Act) (s : Nat), (∀ d ∈ ds, d ≠ some s) → (putAll a ds vs).tmps[s]? = a.tmps[s]?
  | [], vs, a, s, _ => by cases vs <;> rfl
  | d :: ds, [], a, s, _ => rfl
  | d :: ds, v :: vs, a, s, h => by
    rw [putAll, putAll_other ds vs (a.put d v) s (fun x hx => h x (List.mem_cons_of_mem _ hx))]
    exact put_other a d v s (h d (by simp))
theorem putAll_defers : ∀ (ds : List (Option Tmp)) (vs : List Value) (a : Act), (putAll a ds vs).defers = a.defers
  | [], vs, a => by cases vs <;> rfl
  | d :: ds, [], a => rfl
  | d :: ds, v :: vs, a => by
    rw [putAll, putAll_defers ds vs (a.put d v)]
    unfold Act.put
    cases d <;> rfl
structure Slt (l : List Oper) (a A : Act) (lp : Array Bool) (a' : Act) : Prop where
  don : ∀ (k : Nat) (o : Oper) (s : Nat), l[k]? = some o → lp.getD k false = true → o.dst = some s → a'.tmps[s]? = A.tmps[s]?
  oth : ∀ s, (∀ (k : Nat) (o : Oper), l[k]? = some o → lp.getD k false = true → o.dst ≠ some s) → a'.tmps[s]? = a.tmps[s]?
  siz : a'.tmps.size = a.tmps.size
  dfr : a'.defers = a.defers
theorem getD_set {lp : Array Bool} {i k : Nat} (h : (lp.setIfInBounds i true).getD k false = true) : k = i ∨ lp.getD k false = true := by
  by_cases e : k = i
  · exact .inl e
  · right
    rw [Array.getD_eq_getD_getElem?] at h ⊢
    rwa [Array.getElem?_setIfInBounds_ne (by omega)] at h
theorem getD_set_same {lp : Array Bool} {i : Nat} (h : i < lp.size) : (lp.setIfInBounds i true).getD i false = true := by
  rw [Array.getD_eq_getD_getElem?, Array.getElem?_setIfInBounds_self_of_lt h]
  rfl
def valO (A : Act) (o : Oper) : Value := ((o.dst).bind fun s => A.tmps[s]?).getD undef
theorem gh_any {γ : Type} {l : List Oper} (ok : QpOk l l.length l.length) (hgd : ∀ o ∈ l, o.guard = none) (hdst : ∀ (i k : Nat) (oi ok : Oper) (s : Nat), l[i]? = some oi → l[k]? = some ok → oi.dst = some s → ok.dst = some s → i = k) {Q : Exit → Act → World → Prop} {a : Act} (A : γ → Act) (hsz : ∀ g, (A g).tmps.size = a.tmps.size) (hdf : ∀ g, (A g).defers = a.defers) (hA : ∀ g s, (∀ o ∈ l, o.dst ≠ some s) → (A g).tmps[s]? = a.tmps[s]?) (R : Array Bool → γ → World → Prop)
    (hstep : ∀ (i : Nat) (o : Oper) (lp : Array Bool) (g : γ) (w' : World) (a' : Act), l[i]? = some o → lp.size = l.length → lp.getD i false = false → (∀ e ∈ o.after, Region.binds .any e = true → lp.getD e.on false = true) → R lp g w' → Slt l a (A g) lp a' →
      ∀ (K : Act → World → Prop) Q', (∀ g' w'', (∀ (k : Nat) (o : Oper) (s : Nat), l[k]? = some o → lp.getD k false = true → o.dst = some s → (A g').tmps[s]? = (A g).tmps[s]?) → R (lp.setIfInBounds i true) g' w'' → ∀ v, valO (A g') o = v → K (a'.put o.dst v) w'') → o.wp P a' w' K Q')
    (hpost : ∀ g w', R (Array.replicate l.length true) g w' → Q .normal (A g) w') :
    ∀ (fuel : Nat) (lp : Array Bool) (g : γ) (a' : Act) (w : World), lp.size = l.length → unl lp = fuel → R lp g w → Slt l a (A g) lp a' → wpAny P .any l.toArray Q fuel lp a' w := by
  intro fuel
  have fin : ∀ (lp : Array Bool) (g : γ) (a' : Act) (w : World), lp.size = l.length → unl lp = 0 → R lp g w → Slt l a (A g) lp a' → Q .normal a' w := by
    intro lp g a' w hs hu hR hS
    have e : lp = Array.replicate l.length true := by have := unl_zero lp hu; rwa [hs] at this
    rw [e] at hR hS
    have : a' = A g := by
      have ht : a'.tmps = (A g).tmps := by
        apply Array.ext_getElem?
        intro s
        by_cases h : ∃ (k : Nat) (o : Oper), l[k]? = some o ∧ o.dst = some s
        · obtain ⟨k, o, h1, h2⟩ := h
          have hk : k < l.length := (List.getElem?_eq_some_iff.mp h1).1
          exact hS.don k o s h1 (by simp [Array.getElem?_replicate, hk]) h2
        · have h' : ∀ o ∈ l, o.dst ≠ some s := by
            intro o ho e
            obtain ⟨k, hk, rfl⟩ := List.mem_iff_getElem.mp ho
            exact h ⟨k, l[k], List.getElem?_eq_getElem hk, e⟩
          rw [hA g s h']
          exact hS.oth s (fun k o h1 _ e => h ⟨k, o, h1, e⟩)
      have hd : a'.defers = (A g).defers := by rw [hS.dfr, hdf]
      cases a'
      cases hAg : A g
      rw [hAg] at ht hd
      simp only at ht hd
      rw [ht, hd]
    rw [this]
    exact hpost g w hR
  induction fuel with
  | zero =>
    intro lp g a' w hs hu hR hS
    refine ⟨?_, fin lp g a' w hs hu hR hS⟩
    have e : lp = Array.replicate l.length true := by have := unl_zero lp hu; rwa [hs] at this
    apply List.eq_nil_iff_forall_not_mem.mpr
    intro i hi
    obtain ⟨hun, o, ho, _⟩ := mem_ready.1 hi
    have hk : i < l.length := by
      have := (Array.getElem?_eq_some_iff.mp ho).1
      simpa using this
    rw [e] at hun
    simp [Array.getElem?_replicate, hk] at hun
  | succ fuel ih =>
    intro lp g a' w hs hu hR hS
    refine ⟨fun e => ?_, fun i hi => ?_⟩
    · obtain ⟨k, hk, hf⟩ := unl_some lp fuel hu
      have hne := some_ready ok lp hs k (by omega) hf
      rw [Nat.sub_self] at hne
      exact absurd (by simpa using e) hne
    · obtain ⟨hun, o, ho, hrd⟩ := mem_ready.1 hi
      have ho' : l[i]? = some o := by simpa using ho
      have hil : i < l.length := (List.getElem?_eq_some_iff.mp ho').1
      have hun' : lp.getD i false = false := by
        rw [Array.getD_eq_getD_getElem?] at hun ⊢
        cases q : lp[i]? with
        | none => rfl
        | some b => rw [q] at hun; simpa using hun
      unfold wpOp
      simp only [ho]
      rw [if_pos (by simp [Region.wanted, hgd o (List.mem_of_getElem? ho')])]
      left
      refine hstep i o lp g w a' ho' hs hun' (fun e he hb => hrd e he hb) hR hS _ _ ?_
      intro g' w'' hsame hR' v hv
      subst hv
      refine ih _ g' _ w'' (by simp [hs]) (by have := unl_set lp i hun; omega) hR' ⟨?_, ?_, ?_, ?_⟩
      · intro k ok s hk hl hd
        rcases getD_set hl with rfl | hl'
        · have : ok = o := by rw [ho'] at hk; cases hk; rfl
          subst this
          unfold Act.put valO
          rw [hd]
          simp only [Option.bind_some]
          by_cases hlt : s < a'.tmps.size
          · rw [Array.getElem?_setIfInBounds_self_of_lt hlt]
            have h2 : s < (A g').tmps.size := by rw [hsz, ← hS.siz]; exact hlt
            rw [Array.getElem?_eq_getElem h2]
            rfl
          · rw [Array.getElem?_eq_none (by simp; omega), Array.getElem?_eq_none (by rw [hsz, ← hS.siz]; omega)]
        · rw [put_other a' o.dst _ s (fun e => by
            have := hdst k i ok o s hk ho' hd e
            subst this
            rw [hun'] at hl'
            cases hl'), hS.don k ok s hk hl' hd, hsame k ok s hk hl' hd]
      · intro s h
        have hne : o.dst ≠ some s := h i o ho' (getD_set_same (by omega))
        rw [put_other a' o.dst _ s hne]
        exact hS.oth s (fun k ok hk hl => h k ok hk (by
          by_cases e : k = i
          · subst e; exact getD_set_same (by omega)
          · rw [Array.getD_eq_getD_getElem?] at hl ⊢
            rwa [Array.getElem?_setIfInBounds_ne (by omega)]))
      · rw [put_size, hS.siz]
      · unfold Act.put
        cases o.dst <;> exact hS.dfr
def dstG (l : List Oper) : Bool := (List.range l.length).all fun i => (List.range l.length).all fun k => i == k || ((l[i]?).bind (·.dst)).isNone || ((l[i]?).bind (·.dst)) != ((l[k]?).bind (·.dst))
theorem dstG_of {l : List Oper} (h : dstG l = true) : ∀ (i k : Nat) (oi ok : Oper) (s : Nat), l[i]? = some oi → l[k]? = some ok → oi.dst = some s → ok.dst = some s → i = k := by
  intro i k oi ok s hi hk h1 h2
  have hil := (List.getElem?_eq_some_iff.mp hi).1
  have hkl := (List.getElem?_eq_some_iff.mp hk).1
  unfold dstG at h
  rw [List.all_eq_true] at h
  have := h i (List.mem_range.mpr hil)
  rw [List.all_eq_true] at this
  have := this k (List.mem_range.mpr hkl)
  rw [hi, hk] at this
  simp only [Option.bind_some, h1, h2] at this
  simpa using this
theorem gh_region {γ : Type} {id : Nat} {l : List Oper} (ok : QpOk l l.length l.length) (hgd : (l.all fun o => o.guard.isNone) = true) (hdst : dstG l = true) {Q : Exit → Act → World → Prop} {a : Act} {w : World} (ds : List (Option Tmp)) (vals : γ → List Value) (hm : P.follows .mixedOrders = true) (hds : ∀ d ∈ ds, ∃ o ∈ l, o.dst = d) (R : Array Bool → γ → World → Prop) (g0 : γ) (h0 : R (Array.replicate l.length false) g0 w.drew)
    (hstep : ∀ (i : Nat) (o : Oper) (lp : Array Bool) (g : γ) (w' : World) (a' : Act), l[i]? = some o → lp.size = l.length → lp.getD i false = false → (∀ e ∈ o.after, Region.binds .any e = true → lp.getD e.on false = true) → R lp g w' → Slt l a (putAll a ds (vals g)) lp a' →
      ∀ (K : Act → World → Prop) Q', (∀ g' w'', (∀ (k : Nat) (o : Oper) (s : Nat), l[k]? = some o → lp.getD k false = true → o.dst = some s → (putAll a ds (vals g')).tmps[s]? = (putAll a ds (vals g)).tmps[s]?) → R (lp.setIfInBounds i true) g' w'' → ∀ v, valO (putAll a ds (vals g')) o = v → K (a'.put o.dst v) w'') → o.wp P a' w' K Q')
    (hpost : ∀ g w', R (Array.replicate l.length true) g w' → Q .normal (putAll a ds (vals g)) w') : (Code.region id l.toArray true).wp P Q a w := by
  refine wp_region_any hm ?_
  have hu : unl (Array.replicate l.length false) = l.length := by unfold unl; simp
  have main := gh_any ok (fun o ho => by have := List.all_eq_true.mp hgd o ho; simpa using this) (dstG_of hdst) (A := fun g => putAll a ds (vals g)) (fun g => putAll_size _ _ _) (fun g => putAll_defers _ _ _) (fun g s h => putAll_other _ _ _ _ (fun d hd e => by obtain ⟨o, ho, hod⟩ := hds d hd; exact h o ho (by rw [hod, e]))) R hstep hpost l.length (Array.replicate l.length false) g0 a w.drew (by simp) hu h0 ⟨fun k o s hk hl => (by rw [Array.getD_eq_getD_getElem?, Array.getElem?_replicate] at hl; split at hl <;> simp at hl), fun s _ => rfl, rfl, rfl⟩
  have e1 : l.length = l.toArray.size := by simp
  rw [e1] at main
  simpa using main
end
end Go.Proofs.YtiachojhnbicaaaDoor
namespace Go.Proofs.YtiachojhnbicaaaDoor
open Go.RowKit Go.Shelf
set_option linter.unusedSimpArgs false
set_option linter.unusedVariables false

section
variable {P : Program}
end
end Go.Proofs.YtiachojhnbicaaaDoor
namespace Go.Proofs.YtiachojhnbicaaaDoor
open Go.RowKit Go.Shelf
set_option linter.unusedSimpArgs false
set_option linter.unusedVariables false

section
variable {P : Program}
end
end Go.Proofs.YtiachojhnbicaaaDoor
namespace Go.Proofs.YtiachojhnbicaaaDoor
open Go.RowKit
set_option linter.unusedSimpArgs false
set_option linter.unusedVariables false

end Go.Proofs.YtiachojhnbicaaaDoor
namespace Go.Proofs.YtiachojhnbicaaaDoor
open Go.RowKit
set_option linter.unusedSimpArgs false
set_option linter.unusedVariables false

theorem sum_one {W : World} {N : Nat} {v : Value} {l : List Nat} (hc : W.cell? ⟨N, 0, none⟩ = some v) (hr : RwX cB W v l) (hl : l.length ≤ 9223372036854775806) (hx : ∀ b ∈ l, b < 256) (hT : Hf W) :
    Calls Tryd.prog 23 #[.slice (some ⟨N, 0, none⟩) 1 1] W fun e w' => e = .returned (.int .u32 (uI (crS l))) ∧ w' = W := by
  have h := sum_any (.slice (some ⟨N, 0, none⟩) 1 1) [(v, l)] W ⟨_, _, rfl, Nat.le_refl _, .inr ⟨N, 0, rfl, fun j x hj => by
    match j, hj with
    | 0, hj => cases hj; exact hc
    | j + 1, hj => cases hj⟩⟩ (fun p hp => by
      simp only [List.mem_cons, List.mem_nil_iff, or_false] at hp
      subst hp
      exact ⟨hr, hl, hx⟩) (by show 1 ≤ _; decide) hT
  simp only [List.map_cons, List.map_nil, List.flatten_cons, List.flatten_nil, List.append_nil] at h
  exact h
theorem rwx_from {W : World} {ao : Option Addr} {n c k : Nat} {l : List Nat} (h : RwX cB W (.slice ao n c) l) (hk : k ≤ l.length) : RwX cB W (.slice (if c = k then ao else ao.map (·.add (k * 1))) (l.length - k) (c - k)) (l.drop k) := by
  obtain ⟨ao', c', e, hc, h⟩ := h
  injection e with e1 e2 e3
  subst e1 e3
  refine ⟨_, _, by rw [List.length_drop], by rw [List.length_drop]; omega, ?_⟩
  rcases h with h | ⟨b, off, e, h⟩
  · left; rw [h]; exact List.drop_nil
  · by_cases hck : c = k
    · left; exact List.drop_eq_nil_of_le (by omega)
    · right
      rw [if_neg hck, e]
      refine ⟨b, off + k, by simp [addA], fun j x hj => ?_⟩
      rw [List.getElem?_drop] at hj
      rw [Nat.add_assoc]
      exact h _ _ hj
end Go.Proofs.YtiachojhnbicaaaDoor
namespace Go.Proofs.YtiachojhnbicaaaDoor
open Go.RowKit
set_option linter.unusedSimpArgs false
set_option linter.unusedVariables false

end Go.Proofs.YtiachojhnbicaaaDoor
namespace Go.Proofs.YtiachojhnbicaaaDoor
open Go.RowKit
set_option linter.unusedSimpArgs false
set_option linter.unusedVariables false

def AtI (w : World) (B : Nat) (op n : Int) (v : Value) : Prop := w.cell? ⟨B, 0, none⟩ = some (.int .i64 op) ∧ w.cell? ⟨B, 1, none⟩ = some (.int .i64 n) ∧ w.cell? ⟨B, 2, none⟩ = some v
theorem AtI.below {w w' : World} {B : Nat} {op n : Int} {v : Value} (h : AtI w B op n v) (hb : Below w.heap.size w w') : AtI w' B op n v := ⟨keepc hb h.1, keepc hb h.2.1, keepc hb h.2.2⟩
end Go.Proofs.YtiachojhnbicaaaDoor
