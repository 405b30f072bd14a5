/-
  Part 1 of the proof: 17 texts, one behind the other.
-/
import Derived.WalkKit
import Derived.WalkSpells
import Derived.WalkLawsBesides
import Derived.Test.YtiachojhnbicaaaDoorRows
import Derived.Deep.RegionHeld3
import Derived.Laws.AppendOwnNone
import Derived.Deep.LoopGhost
import Derived.Defers
import Derived.Recover
import Derived.Lib.AppendZerosOnto
import Derived.WalkMore
import Derived.ScopeJumps
import Derived.Deep.AppendLies
namespace Go.Proofs.YtiachojhnbicaaaDoor
set_option linter.unusedSimpArgs false
set_option linter.unusedVariables false

def cpN : List Nat → List Nat → Nat
  | [], _ => 0
  | _ :: _, [] => 0
  | a :: x, b :: y => if a = b then cpN x y + 1 else 0
theorem cpN_le : ∀ (x y : List Nat), cpN x y ≤ x.length ∧ cpN x y ≤ y.length
  | [], y => by simp [cpN]
  | _ :: _, [] => by simp [cpN]
  | a :: x, b :: y => by
    have := cpN_le x y
    unfold cpN
    split <;> simp <;> omega
theorem cpN_of : ∀ (x y : List Nat) (k : Nat), x.take k = y.take k → k ≤ x.length → k ≤ y.length → (k = x.length ∨ k = y.length ∨ x[k]? ≠ y[k]?) → cpN x y = k
  | [], y, k, h, h1, h2, h3 => by
    have : k = 0 := by simpa using h1
    subst this; simp [cpN]
  | a :: x, [], k, h, h1, h2, h3 => by
    have : k = 0 := by simpa using h2
    subst this; simp [cpN]
  | a :: x, b :: y, 0, h, h1, h2, h3 => by
    have hab : a ≠ b := by
      rcases h3 with h3 | h3 | h3
      · simp at h3
      · simp at h3
      · intro e; subst e; simp at h3
    unfold cpN
    rw [if_neg hab]
  | a :: x, b :: y, k + 1, h, h1, h2, h3 => by
    rw [List.take_succ_cons, List.take_succ_cons] at h
    injection h with ha ht
    subst ha
    unfold cpN
    rw [if_pos rfl, cpN_of x y k ht (by simpa using h1) (by simpa using h2) (by simpa using h3)]
structure Pt where
  k : Int
  d : Int
  x : List Nat
def csN (x y : List Nat) : Nat := cpN x.reverse y.reverse
theorem csN_le (x y : List Nat) : csN x y ≤ x.length ∧ csN x y ≤ y.length := by
  have := cpN_le x.reverse y.reverse
  simpa [csN] using this
theorem csN_of (x y : List Nat) (k : Nat) (h : ∀ j < k, x[x.length - 1 - j]? = y[y.length - 1 - j]?) (h1 : k ≤ x.length) (h2 : k ≤ y.length) (h3 : k = x.length ∨ k = y.length ∨ x[x.length - 1 - k]? ≠ y[y.length - 1 - k]?) : csN x y = k := by
  unfold csN
  refine cpN_of _ _ k ?_ (by simpa using h1) (by simpa using h2) ?_
  · apply List.ext_getElem?
    intro j
    by_cases hj : j < k
    · rw [List.getElem?_take_of_lt hj, List.getElem?_take_of_lt hj, List.getElem?_reverse (by omega), List.getElem?_reverse (by omega)]
      exact h j hj
    · rw [List.getElem?_eq_none (by simp; omega), List.getElem?_eq_none (by simp; omega)]
  · by_cases e1 : k = x.length
    · exact .inl (by simpa using e1)
    by_cases e2 : k = y.length
    · exact .inr (.inl (by simpa using e2))
    refine .inr (.inr ?_)
    rw [List.getElem?_reverse (by omega), List.getElem?_reverse (by omega)]
    rcases h3 with h3 | h3 | h3
    · exact absurd h3 e1
    · exact absurd h3 e2
    · exact h3
def dfK (a b : List Nat) : Nat := cpN a b
def dfT (a b : List Nat) : Nat := csN (a.drop (cpN a b)) (b.drop (cpN a b))
def dfX (a b : List Nat) : List Nat := (b.drop (dfK a b)).take (b.length - dfK a b - dfT a b)
def dfP (a b : List Nat) : Pt := ⟨(dfK a b : Int), (a.length : Int) - dfK a b - dfT a b, dfX a b⟩
theorem df_le (a b : List Nat) : dfK a b + dfT a b ≤ a.length ∧ dfK a b + dfT a b ≤ b.length := by
  have h1 := cpN_le a b
  have h2 := csN_le (a.drop (cpN a b)) (b.drop (cpN a b))
  rw [List.length_drop, List.length_drop] at h2
  unfold dfK dfT
  omega
theorem dfX_len (a b : List Nat) : (dfX a b).length = b.length - dfK a b - dfT a b := by
  unfold dfX
  have := df_le a b
  rw [List.length_take, List.length_drop]
  omega
end Go.Proofs.YtiachojhnbicaaaDoor
namespace Go.Proofs.YtiachojhnbicaaaDoor
set_option linter.unusedSimpArgs false
set_option linter.unusedVariables false

abbrev okP (m : Int) (p : Pt) : Prop := 0 ≤ p.k ∧ p.k ≤ m ∧ 0 ≤ p.d ∧ p.d ≤ m - p.k
def ftF (s : Option Int) (p : Pt) : Option Int := match s with
  | none => none
  | some m => if okP m p then some (m - p.k - p.d) else none
def ftS (n : Int) (L : List Pt) : Option Int := L.foldl ftF (some n)
def fitB (n : Int) (L : List Pt) : Bool := (ftS n L).isSome
theorem ftF_none : ∀ L : List Pt, L.foldl ftF none = none
  | [] => rfl
  | p :: L => by rw [List.foldl_cons]; exact ftF_none L
theorem ftS_take {n : Int} {L : List Pt} {j : Nat} {p : Pt} (h : L[j]? = some p) : ftS n (L.take (j + 1)) = ftF (ftS n (L.take j)) p := by
  unfold ftS
  rw [List.take_add_one, h, List.foldl_append]
  rfl
theorem ftS_none {n : Int} {L : List Pt} (j : Nat) (h : ftS n (L.take j) = none) : ftS n L = none := by
  unfold ftS at h ⊢
  rw [← List.take_append_drop j L, List.foldl_append, h]
  exact ftF_none _
theorem ftS_bad {n m : Int} {L : List Pt} {j : Nat} {p : Pt} (h : L[j]? = some p) (hm : ftS n (L.take j) = some m) (ho : ¬ okP m p) : fitB n L = false := by
  unfold fitB
  rw [ftS_none (j + 1) (by rw [ftS_take h, hm]; unfold ftF; dsimp only; rw [if_neg ho])]
  rfl
theorem ftS_go {n m : Int} {L : List Pt} {j : Nat} {p : Pt} (h : L[j]? = some p) (hm : ftS n (L.take j) = some m) (ho : okP m p) : ftS n (L.take (j + 1)) = some (m - p.k - p.d) := by
  rw [ftS_take h, hm]
  unfold ftF
  dsimp only
  rw [if_pos ho]
theorem ftS_all {n m : Int} {L : List Pt} {j : Nat} (hj : L.length ≤ j) (hm : ftS n (L.take j) = some m) : fitB n L = true := by
  unfold fitB
  rw [List.take_of_length_le hj] at hm
  rw [hm]
  rfl
theorem ftS_bd {n : Int} (hn : 0 ≤ n) : ∀ (L : List Pt) (m : Int), ftS n L = some m → 0 ≤ m ∧ m ≤ n := by
  intro L
  suffices h : ∀ (L : List Pt) (k m : Int), 0 ≤ k → L.foldl ftF (some k) = some m → 0 ≤ m ∧ m ≤ k by
    exact fun m hm => h L n m hn hm
  intro L
  induction L with
  | nil =>
    intro k m hk h
    simp only [List.foldl_nil, Option.some.injEq] at h
    omega
  | cons p L ih =>
    intro k m hk h
    rw [List.foldl_cons] at h
    by_cases ho : okP k p
    · have e : ftF (some k) p = some (k - p.k - p.d) := by unfold ftF; dsimp only; rw [if_pos ho]
      rw [e] at h
      obtain ⟨h1, h2, h3, h4⟩ := ho
      have := ih _ m (by omega) h
      omega
    · have e : ftF (some k) p = none := by unfold ftF; dsimp only; rw [if_neg ho]
      rw [e, ftF_none] at h
      cases h
end Go.Proofs.YtiachojhnbicaaaDoor
namespace Go.Proofs.YtiachojhnbicaaaDoor
open Go.RowKit
set_option linter.unusedSimpArgs false
set_option linter.unusedVariables false

def hv (x : BitVec 128) : BitVec 64 := x.extractLsb' 64 64
end Go.Proofs.YtiachojhnbicaaaDoor
namespace Go.Proofs.YtiachojhnbicaaaDoor
open Go.RowKit
set_option linter.unusedSimpArgs false
set_option linter.unusedVariables false

theorem bl1 (w : World) (o : Obj) : Below w.heap.size w (w.alloc o) := (Below.refl _ _).alloc (Nat.le_refl _) _
end Go.Proofs.YtiachojhnbicaaaDoor
namespace Go.Proofs.YtiachojhnbicaaaDoor
open Go.RowKit
set_option linter.unusedSimpArgs false
set_option linter.unusedVariables false

end Go.Proofs.YtiachojhnbicaaaDoor
namespace Go.Proofs.YtiachojhnbicaaaDoor
open Go.RowKit
set_option linter.unusedSimpArgs false
set_option linter.unusedVariables false

theorem bcell {W w1 : World} (hb : Below W.heap.size W w1) : (∀ b o, b < W.heap.size → w1.cell? ⟨b, o, none⟩ = W.cell? ⟨b, o, none⟩) ∧ (∀ b o, b < W.heap.size → w1.frozen? ⟨b, o, none⟩ = W.frozen? ⟨b, o, none⟩) :=
  ⟨fun b o h => hb.cell (p := ⟨b, o, none⟩) h, fun b o h => hb.frozen (p := ⟨b, o, none⟩) h⟩

end Go.Proofs.YtiachojhnbicaaaDoor
namespace Go.Proofs.YtiachojhnbicaaaDoor
open Go.RowKit
set_option linter.unusedSimpArgs false
set_option linter.unusedVariables false

theorem cell_in {W : World} {b o : Nat} {v : Value} (h : W.cell? ⟨b, o, none⟩ = some v) : b < W.heap.size := by
  apply Classical.byContradiction; intro hn
  have : W.heap[b]? = none := by simp; omega
  simp [World.cell?, this] at h
theorem keepc {W w' : World} (hb : Below W.heap.size W w') {b o : Nat} {v : Value} (h : W.cell? ⟨b, o, none⟩ = some v) : w'.cell? ⟨b, o, none⟩ = some v := by
  rw [(bcell hb).1 b o (cell_in h)]; exact h
theorem keepf {W w' : World} (hb : Below W.heap.size W w') {b o : Nat} {v : Value} (h : W.cell? ⟨b, o, none⟩ = some v) (hf : W.frozen? ⟨b, o, none⟩ = false) : w'.frozen? ⟨b, o, none⟩ = false := by
  rw [(bcell hb).2 b o (cell_in h)]; exact hf
theorem keepb {w W w' : World} (hb : Below W.heap.size W w') (h : Below w.heap.size w W) : Below w.heap.size w w' := h.trans (hb.mono h.size)

def cv (w : World) (b o : Nat) : Value := (w.cell? ⟨b, o, none⟩).getD (.bool false)
end Go.Proofs.YtiachojhnbicaaaDoor
namespace Go.Proofs.YtiachojhnbicaaaDoor
open Go.RowKit
set_option linter.unusedSimpArgs false
set_option linter.unusedVariables false

def Row (w : World) (size : Nat) (v : Value) (n : Nat) (xs : List Value) : Prop :=
  xs.length = n * size ∧ ∃ ao c, v = .slice ao n c ∧ n ≤ c ∧ ((ao = none ∧ c = 0 ∧ n = 0) ∨ ∃ b off, ao = some ⟨b, off, none⟩ ∧ ∀ j u, xs[j]? = some u → w.cell? ⟨b, off + j, none⟩ = some u)
theorem addA (g o j : Nat) : (⟨g, o, none⟩ : Addr).add j = ⟨g, o + j, none⟩ := by unfold Addr.add; split <;> simp_all
theorem own_row {w : World} {base e size n : Nat} {v : Value} {xs : List Value} (h : w.ownsRow base e size v n xs) : Row w size v n xs := by
  refine ⟨h.1, ?_⟩
  rcases h.2 with ⟨e0, e1⟩ | ⟨g, cap, cur, e0, hb, hg, hnc, hm, hs, ht⟩
  · subst e1
    exact ⟨none, 0, e0, Nat.le_refl _, .inl ⟨rfl, rfl, rfl⟩⟩
  · refine ⟨some ⟨g, 0, none⟩, cap, e0, hnc, .inr ⟨g, 0, rfl, ?_⟩⟩
    intro j u hj
    have f := h.cells (g := g) (by rw [e0]; rfl) j u hj
    rw [addA, Nat.zero_add] at f
    rw [Nat.zero_add]
    exact f
theorem run_slice_from {P : Program} {w : World} {t e : TypeId} {i : TypeInfo} {size : Nat} (ht : P.underlying t = some (.slice e)) (hi : P.info? e = some i) (hsize : i.size = size) (ao : Option Addr) (n c k : Nat) (hk : k ≤ n) :
    Sem.run P (Instr.sliceAt t (.slice ao n c) (some (.int .i64 k)) none none) w = .ok (.slice (if c = k then ao else ao.map (·.add (k * size))) (n - k) (c - k)) w := by
  subst hsize
  simp [Instr.sliceAt, Instr.slice, Instr.sliceBounds, Instr.sliceBound, run_underlying ht, sizeOf, typeInfo, hi, hk, go_sem]
theorem run_slice_to {P : Program} {w : World} {t e : TypeId} {i : TypeInfo} (ht : P.underlying t = some (.slice e)) (hi : P.info? e = some i) (ao : Option Addr) (n c k : Nat) (hk : k ≤ c) :
    Sem.run P (Instr.sliceAt t (.slice ao n c) none (some (.int .i64 k)) none) w = .ok (.slice ao k c) w := by
  simp [Instr.sliceAt, Instr.slice, Instr.sliceBounds, Instr.sliceBound, run_underlying ht, sizeOf, typeInfo, hi, hk, go_sem]
theorem own_form {w : World} {base e size n : Nat} {v : Value} {xs : List Value} (h : w.ownsRow base e size v n xs) : ∃ ao c, v = .slice ao n c := by
  rcases h.2 with ⟨e, h⟩ | ⟨g, cap, cur, e, _⟩
  · exact ⟨none, 0, by rw [h]; exact e⟩
  · exact ⟨_, _, e⟩
theorem Row.below {w w' : World} {size n : Nat} {v : Value} {xs : List Value} (h : Row w size v n xs) (hb : Below w.heap.size w w') : Row w' size v n xs := by
  obtain ⟨hl, ao, c, e, hc, h⟩ := h
  refine ⟨hl, ao, c, e, hc, ?_⟩
  rcases h with h | ⟨b, off, e, h⟩
  · exact .inl h
  · exact .inr ⟨b, off, e, fun j u hj => keepc hb (h j u hj)⟩
end Go.Proofs.YtiachojhnbicaaaDoor
namespace Go.Proofs.YtiachojhnbicaaaDoor
open Go.RowKit
set_option linter.unusedSimpArgs false
set_option linter.unusedVariables false

theorem spot9 {W : World} {a : Addr} {u : Value} (h : W.cell? a = some u) : a = ⟨a.block, a.off, none⟩ := by
  obtain ⟨b, o, s⟩ := a
  cases s with
  | none => rfl
  | some z =>
    unfold World.cell? at h
    split at h
    · simp at h
    · cases h
def RowA (w : World) (size : Nat) (v : Value) (n : Nat) (xs : List Value) : Prop :=
  xs.length = n * size ∧ ∃ ao c, v = .slice ao n c ∧ n ≤ c ∧ ((ao = none ∧ c = 0 ∧ n = 0) ∨ ∃ a : Addr, ao = some a ∧ ∀ j u, xs[j]? = some u → w.cell? (a.add j) = some u)
theorem RowA.below {w w' : World} {size n : Nat} {v : Value} {xs : List Value} (h : RowA w size v n xs) (hb : Below w.heap.size w w') : RowA w' size v n xs := by
  obtain ⟨hl, ao, c, e, hc, h⟩ := h
  refine ⟨hl, ao, c, e, hc, ?_⟩
  rcases h with h | ⟨a, e, h⟩
  · exact .inl h
  · refine .inr ⟨a, e, fun j u hj => ?_⟩
    have f := h j u hj
    have sp := spot9 f
    rw [sp]
    rw [sp] at f
    exact keepc hb f
theorem wpList_append_rowA {P : Program} {w : World} {ops : Array Oper} {rest : List Oper} {o : Oper} {a : Act} {Q : Exit → Act → World → Prop} (hgd : o.guard = none) (s x : Operand) (t : TypeId)
    (ho : o.op = .call { callee := .builtin .append, args := #[s, x], argTypes := #[t, t] })
    (base : Nat) (e : TypeId) (i : TypeInfo) (z : Value) (size bytes : Nat) (ht : P.underlying t = some (.slice e)) (hi : P.info? e = some i) (hz : i.zero = some z)
    (hsize : i.size = size) (hby : i.bytes = bytes) (hzs : z.cells.size = size) (hsz : 0 < size)
    (v : Value) (n : Nat) (xs : List Value) (hs : a.eval s = v) (hown : w.ownsRow base e size v n xs)
    (vx : Value) (m : Nat) (news : List Value) (hx : a.eval x = vx) (hsrc : RowA w size vx m news) (h1 : ∀ y ∈ news, y.oneCell' = true)
    (h63 : n + m ≤ maxLen) (hbytes : (n + m) * bytes ≤ 140737488355328) (hbase : base ≤ w.heap.size)
    (h : ∀ ao cap w', w'.ownsRow base e size (.slice ao (n + m) cap) (n + m) (xs ++ news) → w.grownBy w' v.ownBlock → wpList P ops Q rest (a.put o.dst (.slice ao (n + m) cap)) w') : wpList P ops Q (o :: rest) a w := by
  obtain ⟨hl, xo, c, rfl, hcc, hsrc⟩ := hsrc
  rcases hsrc with ⟨rfl, rfl, rfl⟩ | ⟨ad, rfl, hc⟩
  · have : news = [] := List.eq_nil_of_length_eq_zero (by omega)
    subst this
    refine wpList_append_own_none hgd s x t ho base e i size ht hi v n xs hs hown hx ?_
    obtain ⟨ao, cp, hv⟩ := own_form hown
    have := h ao cp w (by rw [List.append_nil, Nat.add_zero, ← hv]; exact hown) ⟨rfl, rfl, rfl, Nat.le_refl _, fun _ _ _ => rfl⟩
    rw [Nat.add_zero, ← hv] at this
    exact this
  · refine wpList_append_own w hgd s x t ho base e i z size bytes ht hi hz hsize hby hzs hsz v n xs hs hown ad m c news hx hl hc h1 h63 hbytes hbase ?_
    intro v' w' h2 h3 _
    obtain ⟨ao, cp, hv⟩ := own_form h2
    rw [hv]
    rw [hv] at h2
    exact h ao cp w' h2 h3
theorem stopHere9 {P : Program} {w : World} {ops : Array Oper} {rest : List Oper} {a : Act} {Q : Exit → Act → World → Prop} {o : Oper} (h : Hid (wpList P ops Q (o :: rest) a w)) : wpList P ops Q (o :: rest) a w := h.out
end Go.Proofs.YtiachojhnbicaaaDoor
namespace Go.Proofs.YtiachojhnbicaaaDoor
open Go.RowKit
set_option linter.unusedSimpArgs false
set_option linter.unusedVariables false

def cM : BitVec 32 := 0x82F63B78#32
def hb (x : BitVec 32) : BitVec 32 := (x >>> 1) ^^^ (if x.getLsbD 0 then cM else 0#32)
def hbN : Nat → BitVec 32 → BitVec 32
  | 0, x => x
  | n + 1, x => hbN n (hb x)
theorem x4 (a b c d : BitVec 32) : (a ^^^ b) ^^^ (c ^^^ d) = (a ^^^ c) ^^^ (b ^^^ d) := by
  rw [BitVec.xor_assoc, BitVec.xor_assoc, ← BitVec.xor_assoc b c d, BitVec.xor_comm b c, BitVec.xor_assoc c b d]
theorem hb_xor (x y : BitVec 32) : hb (x ^^^ y) = hb x ^^^ hb y := by
  unfold hb
  rw [BitVec.ushiftRight_xor_distrib, BitVec.getLsbD_xor, x4]
  congr 1
  cases x.getLsbD 0 <;> cases y.getLsbD 0 <;> simp
theorem hbN_xor (n : Nat) : ∀ x y, hbN n (x ^^^ y) = hbN n x ^^^ hbN n y := by
  induction n with
  | zero => intro x y; rfl
  | succ n ih => intro x y; simp only [hbN]; rw [hb_xor, ih]
theorem hbN_add (m n : Nat) : ∀ x, hbN (m + n) x = hbN n (hbN m x) := by
  induction m with
  | zero => intro x; simp [hbN]
  | succ m ih => intro x; rw [Nat.succ_add]; simp only [hbN]; rw [ih]
def cT : Nat → BitVec 32
  | 0 => 0x00000000#32 | 1 => 0x105ec76f#32 | 2 => 0x20bd8ede#32 | 3 => 0x30e349b1#32 | 4 => 0x417b1dbc#32 | 5 => 0x5125dad3#32 | 6 => 0x61c69362#32 | 7 => 0x7198540d#32
  | 8 => 0x82f63b78#32 | 9 => 0x92a8fc17#32 | 10 => 0xa24bb5a6#32 | 11 => 0xb21572c9#32 | 12 => 0xc38d26c4#32 | 13 => 0xd3d3e1ab#32 | 14 => 0xe330a81a#32 | 15 => 0xf36e6f75#32
  | _ => 0#32
theorem cT_eq : ∀ k : Fin 16, hbN 4 (BitVec.ofNat 32 k.val) = cT k.val := by decide +kernel
theorem hb_even (x : BitVec 32) (h : x.getLsbD 0 = false) : hb x = x >>> 1 := by unfold hb; rw [h]; simp
theorem hb_hi (x : BitVec 32) (h : ∀ i, i < 4 → x.getLsbD i = false) : hbN 4 x = x >>> 4 := by
  simp only [hbN]
  have e1 : hb x = x >>> 1 := hb_even x (h 0 (by omega))
  have e2 : hb (x >>> 1) = x >>> 2 := by
    rw [hb_even _ (by rw [BitVec.getLsbD_ushiftRight]; exact h 1 (by omega)), ← BitVec.shiftRight_add]
  have e3 : hb (x >>> 2) = x >>> 3 := by
    rw [hb_even _ (by rw [BitVec.getLsbD_ushiftRight]; exact h 2 (by omega)), ← BitVec.shiftRight_add]
  have e4 : hb (x >>> 3) = x >>> 4 := by
    rw [hb_even _ (by rw [BitVec.getLsbD_ushiftRight]; exact h 3 (by omega)), ← BitVec.shiftRight_add]
  rw [e1, e2, e3, e4]
theorem and15 (x : BitVec 32) : x &&& 15#32 = BitVec.ofNat 32 (x.toNat % 16) := by
  apply BitVec.eq_of_toNat_eq
  rw [BitVec.toNat_and, BitVec.toNat_ofNat, BitVec.toNat_ofNat]
  have h : x.toNat &&& 15 = x.toNat % 16 := Nat.and_two_pow_sub_one_eq_mod x.toNat 4
  have e : 15 % 2 ^ 32 = 15 := by decide
  rw [e, h]
  omega
theorem hb_four (x : BitVec 32) : hbN 4 x = (x >>> 4) ^^^ cT (x.toNat % 16) := by
  have hs : x = (x &&& ~~~15#32) ^^^ (x &&& 15#32) := by
    apply BitVec.eq_of_getLsbD_eq
    intro i hi
    simp only [BitVec.getLsbD_xor, BitVec.getLsbD_and, BitVec.getLsbD_not, hi, decide_true, Bool.true_and]
    cases x.getLsbD i <;> cases (15#32).getLsbD i <;> rfl
  have h1 : hbN 4 (x &&& ~~~15#32) = (x &&& ~~~15#32) >>> 4 := by
    apply hb_hi
    intro i hi
    rw [BitVec.getLsbD_and, BitVec.getLsbD_not]
    have : i = 0 ∨ i = 1 ∨ i = 2 ∨ i = 3 := by omega
    rcases this with rfl | rfl | rfl | rfl <;> simp
  have h2 : (x &&& ~~~15#32) >>> 4 = x >>> 4 := by
    apply BitVec.eq_of_getLsbD_eq
    intro i hi
    rw [BitVec.getLsbD_ushiftRight, BitVec.getLsbD_ushiftRight, BitVec.getLsbD_and, BitVec.getLsbD_not]
    by_cases c : 4 + i < 32
    · have h15 : (15#32).getLsbD (4 + i) = false := by
        rw [BitVec.getLsbD_ofNat]
        have : (15 : Nat).testBit (4 + i) = false := Nat.testBit_lt_two_pow (Nat.lt_of_lt_of_le (by decide : 15 < 2 ^ 4) (Nat.pow_le_pow_right (by decide) (by omega)))
        rw [this]; simp
      rw [h15]; simp [c]
    · rw [BitVec.getLsbD_of_ge x _ (by omega)]; simp
  have h3 : hbN 4 (x &&& 15#32) = cT (x.toNat % 16) := by
    rw [and15]; exact cT_eq ⟨x.toNat % 16, by omega⟩
  calc hbN 4 x = hbN 4 ((x &&& ~~~15#32) ^^^ (x &&& 15#32)) := by rw [← hs]
    _ = _ := by rw [hbN_xor, h1, h2, h3]

def stp (c : BitVec 32) (b : Nat) : BitVec 32 := hbN 8 (c ^^^ BitVec.ofNat 32 b)
def crF (c : BitVec 32) (l : List Nat) : BitVec 32 := l.foldl stp c
def crS (l : List Nat) : BitVec 32 := ~~~ crF (BitVec.allOnes 32) l
theorem crF_nil (c : BitVec 32) : crF c [] = c := rfl
theorem crF_cons (c : BitVec 32) (b : Nat) (l : List Nat) : crF c (b :: l) = crF (stp c b) l := rfl
theorem crF_app (c : BitVec 32) (l m : List Nat) : crF c (l ++ m) = crF (crF c l) m := by unfold crF; exact List.foldl_append
theorem not_xor (x : BitVec 32) : ~~~ x = BitVec.allOnes 32 ^^^ x := by
  apply BitVec.eq_of_getLsbD_eq
  intro i hi
  rw [BitVec.getLsbD_not, BitVec.getLsbD_xor, BitVec.getLsbD_allOnes]
  simp only [hi, decide_true, Bool.true_and, Bool.true_xor]
def cOne : BitVec 32 := 0x80000000#32
end Go.Proofs.YtiachojhnbicaaaDoor
namespace Go.Proofs.YtiachojhnbicaaaDoor
open Go.RowKit
set_option linter.unusedSimpArgs false
set_option linter.unusedVariables false

theorem uI_ex (x : BitVec 32) : ∃ n : Int, n = (x.toNat : Int) := ⟨_, rfl⟩
noncomputable def uI (x : BitVec 32) : Int := Classical.choose (uI_ex x)
theorem uI_eq (x : BitVec 32) : uI x = (x.toNat : Int) := Classical.choose_spec (uI_ex x)
theorem uI_of (n : Nat) (h : n < 4294967296) : uI (BitVec.ofNat 32 n) = (n : Int) := by
  rw [uI_eq, BitVec.toNat_ofNat]
  have : (2 : Nat) ^ 32 = 4294967296 := by decide
  omega
theorem uI_zero : uI 0#32 = 0 := by rw [uI_eq]; rfl
theorem wrap32n (n : Nat) (h : n < 4294967296) : IntKind.u32.wrap (n : Int) = (n : Int) := by
  simp [IntKind.wrap, IntKind.bits, IntKind.signed]; omega
theorem b32 (a b : BitVec 32) : BitVec.ofInt 32 (uI a) = a := by rw [uI_eq]; simp
theorem and32 (a b : BitVec 32) : bits .and .u32 (uI a) (uI b) = uI (a &&& b) := by
  unfold bits
  simp only [IntKind.bits]
  rw [b32 a a, b32 b b, wrap32n _ (BitVec.isLt _), uI_eq]; rfl
theorem xor32 (a b : BitVec 32) : bits .xor .u32 (uI a) (uI b) = uI (a ^^^ b) := by
  unfold bits
  simp only [IntKind.bits]
  rw [b32 a a, b32 b b, wrap32n _ (BitVec.isLt _), uI_eq]; rfl
theorem shr32 (a : BitVec 32) (n : Nat) : uI a / 2 ^ n = uI (a >>> n) := by
  rw [uI_eq, uI_eq, BitVec.toNat_ushiftRight, Nat.shiftRight_eq_div_pow]; simp
theorem lit32 (n : Nat) (h : n < 4294967296) : ((n : Nat) : Int) = uI (BitVec.ofNat 32 n) := (uI_of n h).symm
theorem odd32 (x : BitVec 32) : bits .and .u32 (uI x) 1 = if x.getLsbD 0 then 1 else 0 := by
  have e : (1 : Int) = uI 1#32 := lit32 1 (by decide)
  have h : bits .and .u32 (uI x) (uI 1#32) = if x.getLsbD 0 then 1 else 0 := by
    rw [and32]
    have h2 : x &&& 1#32 = if x.getLsbD 0 then 1#32 else 0#32 := by
      apply BitVec.eq_of_getLsbD_eq
      intro i hi
      rw [BitVec.getLsbD_and, BitVec.getLsbD_ofNat]
      by_cases c : i = 0
      · subst c; cases x.getLsbD 0 <;> simp
      · have : Nat.testBit 1 i = false := by
          cases hh : Nat.testBit 1 i with
          | false => rfl
          | true => exact absurd (Nat.testBit_one_eq_true_iff_self_eq_zero.mp hh) c
        rw [this]
        cases x.getLsbD 0
        · simp
        · simp only [if_true]; rw [BitVec.getLsbD_ofNat, this]; simp
    rw [h2]
    cases x.getLsbD 0
    · simp only [Bool.false_eq_true, if_false]; exact uI_zero
    · simp only [if_true]; exact e.symm
  rw [← e] at h
  exact h
theorem xorM (x : BitVec 32) : bits .xor .u32 (uI x) 2197175160 = uI (x ^^^ cM) := by
  have e : (2197175160 : Int) = uI cM := lit32 2197175160 (by decide)
  rw [e, xor32]
theorem half32 (x : BitVec 32) : uI x / (2 : Int) = uI (x >>> 1) := by have := shr32 x 1; simpa using this
theorem hb_odd (x : BitVec 32) (h : x.getLsbD 0 = true) : hb x = (x >>> 1) ^^^ cM := by unfold hb; rw [h]; simp
end Go.Proofs.YtiachojhnbicaaaDoor
namespace Go.Proofs.YtiachojhnbicaaaDoor
open Go.RowKit
set_option linter.unusedSimpArgs false
set_option linter.unusedVariables false

theorem hid13 {p : Prop} (h : p) : Hid p := h
def cB (b : Nat) : Value := .int .u8 (b : Int)
noncomputable def cU (x : BitVec 32) : Value := .int .u32 (uI x)
def cI (n : Int) : Value := .int .i64 n
def RwX {α : Type} (f : α → Value) (w : World) (v : Value) (l : List α) : Prop :=
  ∃ ao c, v = .slice ao l.length c ∧ l.length ≤ c ∧ (l = [] ∨ ∃ b off, ao = some ⟨b, off, none⟩ ∧ ∀ j x, l[j]? = some x → w.cell? ⟨b, off + j, none⟩ = some (f x))
section
variable {α : Type} {f : α → Value} {w w' : World} {v : Value} {l : List α}
theorem RwX.below (h : RwX f w v l) (hb : Below w.heap.size w w') : RwX f w' v l := by
  obtain ⟨ao, c, e, hc, h⟩ := h
  refine ⟨ao, c, e, hc, ?_⟩
  rcases h with h | ⟨b, off, e, h⟩
  · exact .inl h
  · exact .inr ⟨b, off, e, fun j x hj => keepc hb (h j x hj)⟩
theorem own_rwx {base e : Nat} (h : w.ownsRow base e 1 v l.length (l.map f)) : RwX f w v l := by
  obtain ⟨-, ao, c, e, hc, h⟩ := own_row h
  refine ⟨ao, c, e, hc, ?_⟩
  rcases h with ⟨-, -, h⟩ | ⟨b, off, e, h⟩
  · exact .inl (List.eq_nil_of_length_eq_zero h)
  · exact .inr ⟨b, off, e, fun j x hj => h j _ (by rw [List.getElem?_map, hj]; rfl)⟩
theorem own_rowA {w : World} {base e size n : Nat} {v : Value} {xs : List Value} (h : w.ownsRow base e size v n xs) : RowA w size v n xs := by
  obtain ⟨h1, ao, c, h2, h3, h4⟩ := own_row h
  refine ⟨h1, ao, c, h2, h3, ?_⟩
  rcases h4 with h4 | ⟨b, off, h5, h6⟩
  · exact .inl h4
  · exact .inr ⟨_, h5, fun j u hj => by rw [addA]; exact h6 j u hj⟩
theorem RwX.row (h : RwX f w v l) (hn : l = [] → ∃ n, v = .slice none 0 n ∧ n = 0) : RowA w 1 v l.length (l.map f) := by
  obtain ⟨ao, c, e, hc, h⟩ := h
  refine ⟨by simp, ao, c, e, hc, ?_⟩
  rcases h with h | ⟨b, off, e, h⟩
  · obtain ⟨n, e2, rfl⟩ := hn h
    subst h
    rw [e] at e2
    injection e2 with e3 e4 e5
    subst e3 e5
    exact .inl ⟨rfl, rfl, rfl⟩
  · refine .inr ⟨⟨b, off, none⟩, e, fun j u hj => ?_⟩
    rw [List.getElem?_map] at hj
    cases hx : l[j]? with
    | none => rw [hx] at hj; cases hj
    | some x =>
      rw [hx] at hj
      simp only [Option.map_some, Option.some.injEq] at hj
      rw [addA, ← hj]
      exact h j x hx
end
end Go.Proofs.YtiachojhnbicaaaDoor
namespace Go.Proofs.YtiachojhnbicaaaDoor
open Go.RowKit
set_option linter.unusedSimpArgs false
set_option linter.unusedVariables false

theorem info13 {P : Program} {t : TypeId} {z : Value} {s b : Nat} (h : (P.info? t).map (fun i => (i.zero, i.size, i.bytes)) = some (some z, s, b)) : ∃ i, P.info? t = some i ∧ i.zero = some z ∧ i.size = s ∧ i.bytes = b := by
  cases hi : P.info? t with
  | none => rw [hi] at h; cases h
  | some i =>
    rw [hi] at h
    simp only [Option.map_some, Option.some.injEq, Prod.mk.injEq] at h
    exact ⟨i, rfl, h.1, h.2.1, h.2.2⟩
theorem own_b13 {base e size n : Nat} {v : Value} {xs : List Value} {W w' : World} (hb : Below W.heap.size W w') (h : W.ownsRow base e size v n xs) : w'.ownsRow base e size v n xs := by
  refine h.kept (row := none) ⟨hb.os, hb.tape, hb.output, hb.size, fun k hk _ => hb.block k hk⟩ ?_
  cases v.ownBlock with
  | none => exact Or.inl rfl
  | some a => exact Or.inr (by simp)
end Go.Proofs.YtiachojhnbicaaaDoor
namespace Go.Proofs.YtiachojhnbicaaaDoor
open Go.RowKit
set_option linter.unusedSimpArgs false
set_option linter.unusedVariables false

theorem Tryd.infoB13 : (Tryd.prog.info? 5).map (fun i => (i.zero, i.size, i.bytes)) = some (some (.int .u8 0), 1, 1) := by kernel_rfl
theorem cB_one (l : List Nat) : ∀ y ∈ l.map cB, y.oneCell' = true := by
  intro y hy
  obtain ⟨x, -, rfl⟩ := List.mem_map.1 hy
  rfl
end Go.Proofs.YtiachojhnbicaaaDoor
namespace Go.Proofs.YtiachojhnbicaaaDoor
open Go.RowKit
set_option linter.unusedSimpArgs false
set_option linter.unusedVariables false

def Hf (w : World) : Prop := ∀ j, j < 16 → w.cell? ⟨0, j, none⟩ = some (.int .u32 (uI (cT j)))
theorem Hf.below {w w' : World} (h : Hf w) (hb : Below w.heap.size w w') : Hf w' := fun j hj => keepc hb (h j hj)
theorem nib32 (x : BitVec 32) : bits .and .u32 (uI x) 15 = ((x.toNat % 16 : Nat) : Int) := by
  have e : (15 : Int) = uI 15#32 := lit32 15 (by decide)
  have h : bits .and .u32 (uI x) (uI 15#32) = ((x.toNat % 16 : Nat) : Int) := by
    rw [and32, and15, uI_of _ (by omega)]
  rw [← e] at h
  exact h
theorem sh4 (x : BitVec 32) : uI x / (16 : Int) = uI (x >>> 4) := by have := shr32 x 4; simpa using this
theorem byX (c : BitVec 32) (b : Nat) (h : b < 256) : bits .xor .u32 (uI c) (b : Int) = uI (c ^^^ BitVec.ofNat 32 b) := by
  rw [← xor32, uI_of b (by omega)]
theorem stp_4 (c : BitVec 32) (b : Nat) : hbN 4 (hbN 4 (c ^^^ BitVec.ofNat 32 b)) = stp c b := by
  unfold stp; rw [← hbN_add]
def intOf13 : Value → Int | .int _ q => q | _ => 0
theorem crF_at {l : List Nat} {k : Nat} (hk : k < l.length) (C : BitVec 32) : crF C (l.drop k) = crF (stp C (l[k])) (l.drop (k + 1)) := by
  rw [List.drop_eq_getElem_cons hk, crF_cons]
theorem nibF {w : World} (hT : Hf w) (x : BitVec 32) : ∃ d : Nat, ∃ t : Int, d < 16 ∧ bits .and .u32 (uI x) 15 = (d : Int) ∧ w.cell? ⟨0, d, none⟩ = some (.int .u32 t) ∧ bits .xor .u32 (uI x / (16 : Int)) t = uI (hbN 4 x) := by
  refine ⟨x.toNat % 16, uI (cT (x.toNat % 16)), by omega, nib32 x, hT _ (by omega), ?_⟩
  rw [sh4, xor32, hb_four]
def AlI (l : List Nat) (ao : Option Addr) (cc : Nat) (c : BitVec 32) (a' : Act) : Prop := ∃ (k : Nat) (C : BitVec 32) (u6 u7 u8 u9 u10 u11 u12 u13 u14 u15 u16 u17 u18 u19 u20 u21 u22 u23 u24 u25 u26 u27 u28 u29 u30 u31 u32 u33 : Value), a' = { tmps := #[.int .u32 (uI C), .slice ao l.length cc, undef, undef, .int .u32 0, .int .i64 (k : Int), u6, u7, u8, u9, u10, u11, u12, u13, u14, u15, u16, u17, u18, u19, u20, u21, u22, u23, u24, u25, u26, u27, u28, u29, u30, u31, u32, u33], defers := [] } ∧ k ≤ l.length ∧ Hid (crF C (l.drop k) = crF c l)
theorem AlI.mk {l : List Nat} {ao : Option Addr} {cc : Nat} {c : BitVec 32} (k : Nat) (C : BitVec 32) (u6 u7 u8 u9 u10 u11 u12 u13 u14 u15 u16 u17 u18 u19 u20 u21 u22 u23 u24 u25 u26 u27 u28 u29 u30 u31 u32 u33 : Value) (hk : k ≤ l.length) (h : Hid (crF C (l.drop k) = crF c l)) : AlI l ao cc c { tmps := #[.int .u32 (uI C), .slice ao l.length cc, undef, undef, .int .u32 0, .int .i64 (k : Int), u6, u7, u8, u9, u10, u11, u12, u13, u14, u15, u16, u17, u18, u19, u20, u21, u22, u23, u24, u25, u26, u27, u28, u29, u30, u31, u32, u33], defers := [] } := ⟨k, C, u6, u7, u8, u9, u10, u11, u12, u13, u14, u15, u16, u17, u18, u19, u20, u21, u22, u23, u24, u25, u26, u27, u28, u29, u30, u31, u32, u33, rfl, hk, h⟩
def AlM (l : List Nat) (a' : Act) : Nat := l.length - (intOf13 (a'.tmps.getD 5 undef)).toNat
set_option maxRecDepth 1000000 in
set_option maxHeartbeats 8000000 in
theorem along_any (c : BitVec 32) (v : Value) (l : List Nat) (w : World) (hv : RwX cB w v l) (hl : l.length ≤ 9223372036854775806) (hb : ∀ b ∈ l, b < 256) (hT : Hf w) :
    Calls Tryd.prog 34 #[.int .u32 (uI c), v] w fun e w' => e = .returned (.int .u32 (uI (crF c l))) ∧ w' = w := by
  obtain ⟨ao, cc, rfl, hc, hv⟩ := hv
  have HV := hid13 hv
  have HT := hid13 hT
  have HB := hid13 hb
  have HL := hid13 hl
  clear hv hT hb hc hl
  go_enter Tryd.func34, Tryd.ntmps34
  go_wp2
  refine wp_scope_jumps 0 (fun a' w' => w' = w ∧ AlI l ao cc c a') (fun a' _ => AlM l a') rfl ?_ ?_
  · have HC : Hid (crF c (l.drop 0) = crF c l) := by show crF c (l.drop 0) = crF c l; simp
    by_cases hlt : 0 < l.length
    · have hne : ¬ ((0 : Int) = (l.length : Int)) := by omega
      obtain ⟨b, hb0⟩ : ∃ b, b = l[0]'hlt := ⟨_, rfl⟩
      have hb1 : b < 256 := HB.out b (by rw [hb0]; exact List.getElem_mem hlt)
      obtain ⟨bo, off, rfl, hcell⟩ : ∃ bo off, ao = some ⟨bo, off, none⟩ ∧ ∀ j x, l[j]? = some x → w.cell? ⟨bo, off + j, none⟩ = some (cB x) := by
        rcases HV.out with h | h
        · rw [h] at hlt; simp at hlt
        · exact h
      have hrd : w.cell? ⟨bo, off + 0, none⟩ = some (.int .u8 (b : Int)) := by
        have := hcell 0 b (by rw [hb0]; simp [hlt])
        exact this
      clear hcell HV
      have hx := byX c b hb1
      have HE : Hid (crF (hbN 4 (hbN 4 (c ^^^ BitVec.ofNat 32 b))) (l.drop (0 + 1)) = crF c l) := by
        show _ = _
        rw [stp_4, hb0, ← crF_at hlt]; exact HC.out
      obtain ⟨X, hX⟩ : ∃ X, X = c ^^^ BitVec.ofNat 32 b := ⟨_, rfl⟩
      rw [← hX] at hx HE
      obtain ⟨d, t, hd, f1, f2, f3⟩ := nibF HT.out X
      obtain ⟨Y, hY⟩ : ∃ Y, Y = hbN 4 X := ⟨_, rfl⟩
      rw [← hY] at f3 HE
      obtain ⟨d2, t2, hd2, g1, g2, g3⟩ := nibF HT.out Y
      have hd' : ((d : Nat) : Int) < 16 := by omega
      have hd2' : ((d2 : Nat) : Int) < 16 := by omega
      have hbi : ((b : Nat) : Int) < 256 := by omega
      have mk : IntKind.i64.wrap ((0 : Int) + 1) = (0 : Int) + 1 := by have := HL.out; rw [IntKind.wrap_i64]; omega
      have HLT := hid13 hlt
      have HB0 := hid13 hb0
      clear hX hY HC hb0
      rw [Nat.add_zero] at hrd
      clear mk
      go_wp2
      go_step3
      go_wp2
      go_step3
      exact ⟨rfl, rfl, AlI.mk 1 (hbN 4 Y) _ _ _ _ _ _ _ _ _ _ _ _ _ _ _ _ _ _ _ _ _ _ _ _ _ _ _ _ HLT.out HE⟩
    · have h0 : l = [] := List.eq_nil_of_length_eq_zero (by omega)
      subst h0
      go_wp2
      go_step3
      go_wp2
      simp only [Exit.jump]
      go_ret
      exact ⟨rfl, rfl⟩
  · rintro a' w' ⟨rfl, k, C, u6, u7, u8, u9, u10, u11, u12, u13, u14, u15, u16, u17, u18, u19, u20, u21, u22, u23, u24, u25, u26, u27, u28, u29, u30, u31, u32, u33, rfl, hk, HC⟩
    by_cases hlt : k < l.length
    · have hne : ¬ ((k : Int) = (l.length : Int)) := by omega
      obtain ⟨b, hb0⟩ : ∃ b, b = l[k]'hlt := ⟨_, rfl⟩
      have hb1 : b < 256 := HB.out b (by rw [hb0]; exact List.getElem_mem hlt)
      obtain ⟨bo, off, rfl, hcell⟩ : ∃ bo off, ao = some ⟨bo, off, none⟩ ∧ ∀ j x, l[j]? = some x → w'.cell? ⟨bo, off + j, none⟩ = some (cB x) := by
        rcases HV.out with h | h
        · rw [h] at hlt; simp at hlt
        · exact h
      have hrd : w'.cell? ⟨bo, off + k, none⟩ = some (.int .u8 (b : Int)) := by
        have := hcell k b (by rw [hb0]; simp [hlt])
        exact this
      clear hcell HV
      have hx := byX C b hb1
      have HE : Hid (crF (hbN 4 (hbN 4 (C ^^^ BitVec.ofNat 32 b))) (l.drop (k + 1)) = crF c l) := by
        show _ = _
        rw [stp_4, hb0, ← crF_at hlt]; exact HC.out
      obtain ⟨X, hX⟩ : ∃ X, X = C ^^^ BitVec.ofNat 32 b := ⟨_, rfl⟩
      rw [← hX] at hx HE
      obtain ⟨d, t, hd, f1, f2, f3⟩ := nibF HT.out X
      obtain ⟨Y, hY⟩ : ∃ Y, Y = hbN 4 X := ⟨_, rfl⟩
      rw [← hY] at f3 HE
      obtain ⟨d2, t2, hd2, g1, g2, g3⟩ := nibF HT.out Y
      have hd' : ((d : Nat) : Int) < 16 := by omega
      have hd2' : ((d2 : Nat) : Int) < 16 := by omega
      have hbi : ((b : Nat) : Int) < 256 := by omega
      have mk : IntKind.i64.wrap ((k : Int) + 1) = (k : Int) + 1 := by have := HL.out; rw [IntKind.wrap_i64]; omega
      have HLT := hid13 hlt
      have HB0 := hid13 hb0
      clear hX hY HC hb0
      go_wp2
      go_step3
      refine ⟨rfl, ⟨rfl, AlI.mk (k + 1) (hbN 4 Y) _ _ _ _ _ _ _ _ _ _ _ _ _ _ _ _ _ _ _ _ _ _ _ _ _ _ _ _ HLT.out HE⟩, ?_⟩
      show l.length - ((k : Int) + 1).toNat < l.length - (k : Int).toNat
      have := HLT.out
      omega
    · have hq : (k : Int) = (l.length : Int) := by omega
      have HE : Hid (C = crF c l) := by
        have := HC.out
        rw [List.drop_eq_nil_of_le (by omega), crF_nil] at this
        exact this
      go_wp2
      simp only [Exit.jump]
      go_ret
      exact ⟨by rw [← HE.out]; rfl, rfl⟩

theorem flat_at {P : List (Value × List Nat)} {k : Nat} (hk : k < P.length) (C : BitVec 32) : crF C ((P.drop k).map (·.2)).flatten = crF (crF C (P[k].2)) ((P.drop (k + 1)).map (·.2)).flatten := by
  rw [List.drop_eq_getElem_cons hk, List.map_cons, List.flatten_cons, crF_app]
theorem notU (x : BitVec 32) : bits .xor .u32 IntKind.u32.max (uI x) = uI (~~~ x) := by
  have e : IntKind.u32.max = uI (BitVec.allOnes 32) := by rw [uI_eq]; decide
  rw [e, xor32, not_xor]
set_option maxRecDepth 100000 in
set_option maxHeartbeats 8000000 in
theorem sum_any (v : Value) (P : List (Value × List Nat)) (w : World) (hv : RwX (fun p : Value × List Nat => p.1) w v P) (hP : ∀ p ∈ P, RwX cB w p.1 p.2 ∧ p.2.length ≤ 9223372036854775806 ∧ ∀ b ∈ p.2, b < 256) (hl : P.length ≤ 9223372036854775806) (hT : Hf w) :
    Calls Tryd.prog 23 #[v] w fun e w' => e = .returned (.int .u32 (uI (crS (P.map (·.2)).flatten))) ∧ w' = w := by
  obtain ⟨ao, cc, rfl, hc, hv⟩ := hv
  have HV := hid13 hv
  have HT := hid13 hT
  have HP := hid13 hP
  have HL := hid13 hl
  have hs : ¬ IntKind.u32.signed = true := by decide
  clear hv hT hP hc hl
  go_enter Tryd.func23, Tryd.ntmps23
  go_wp2_with fail
  go_loopg [3, 5, 8] P.length (fun g a b i wr => wr = w ∧ ∃ (k : Nat) (C : BitVec 32), k + g = P.length ∧ a = .int .u32 (uI C) ∧ i = .int .i64 (k : Int) ∧ Hid (crF C ((P.drop k).map (·.2)).flatten = crF (BitVec.allOnes 32) (P.map (·.2)).flatten))
  case atStart =>
    refine ⟨rfl, 0, BitVec.allOnes 32, by omega, ?_, rfl, rfl⟩
    exact congrArg (Value.int .u32) (by rw [uI_eq]; decide)
  case round =>
    obtain ⟨rfl, k, C, hk, rfl, rfl, HC⟩ := hrel
    by_cases hlt : k < P.length
    · have hli : (k : Int) < (P.length : Int) := by omega
      obtain ⟨bo, off, rfl, hcell⟩ : ∃ bo off, ao = some ⟨bo, off, none⟩ ∧ ∀ j x, P[j]? = some x → wr.cell? ⟨bo, off + j, none⟩ = some x.1 := by
        rcases HV.out with h | h
        · rw [h] at hlt; simp at hlt
        · exact h
      obtain ⟨q, hq⟩ : ∃ q, q = P[k] := ⟨_, rfl⟩
      have hrd : wr.cell? ⟨bo, off + k, none⟩ = some q.1 := hcell k q (by rw [hq]; simp [hlt])
      have hq2 := hid13 (HP.out q (by rw [hq]; exact List.getElem_mem hlt))
      have HE : Hid (crF (crF C q.2) ((P.drop (k + 1)).map (·.2)).flatten = crF (BitVec.allOnes 32) (P.map (·.2)).flatten) := by
        show _ = _
        rw [hq, ← flat_at hlt]; exact HC.out
      have mk : IntKind.i64.wrap ((k : Int) + 1) = (k : Int) + 1 := by have := HL.out; rw [IntKind.wrap_i64]; omega
      have HK := hid13 hk
      have HLT := hid13 hlt
      clear hq hcell HC hk
      obtain ⟨qv, ql⟩ := q
      go_wp2_with (go_at_call 34; refine (along_any C qv ql _ hq2.out.1 hq2.out.2.1 hq2.out.2.2 HT.out).mono ?_; rintro e w1 ⟨rfl, rfl⟩)
      go_roundg (gk - 1)
      case measure => have := HK.out; have := HLT.out; omega
      case rel => exact ⟨rfl, k + 1, _, by have := HK.out; have := HLT.out; omega, rfl, rfl, HE⟩
    · have hli : ¬ (k : Int) < (P.length : Int) := by omega
      have HE : Hid (~~~ C = crS (P.map (·.2)).flatten) := by
        have := HC.out
        rw [List.drop_eq_nil_of_le (by omega), List.map_nil, List.flatten_nil, crF_nil] at this
        show ~~~ C = crS _
        unfold crS
        rw [this]
      have hn := notU C
      go_wp2_with fail
      go_ret
      exact ⟨congrArg Ending.returned (congrArg (Value.int .u32) (by first | exact congrArg uI HE.out | (rw [← HE.out]; exact hn))), rfl⟩
end Go.Proofs.YtiachojhnbicaaaDoor
namespace Go.Proofs.YtiachojhnbicaaaDoor
open Go.RowKit
set_option linter.unusedSimpArgs false
set_option linter.unusedVariables false

def setP (U : List (BitVec 32)) (k : Nat) : List (BitVec 32) := U.set (k / 32) (U.getD (k / 32) 0#32 ||| (cOne >>> (k % 32)))
section
variable {α : Type} [DecidableEq α]
end
end Go.Proofs.YtiachojhnbicaaaDoor
namespace Go.Proofs.YtiachojhnbicaaaDoor
open Go.RowKit
set_option linter.unusedSimpArgs false
set_option linter.unusedVariables false

structure FoI (w W : World) (nw : Nat) (vf : Value) (U : List (BitVec 32)) (R : List Int) : Prop where
  b : Below w.heap.size w W
  m : W.ownsRow w.heap.size 46 1 (.slice (some ⟨w.heap.size, 0, none⟩) nw nw) nw (U.map cU)
  r : W.ownsRow (w.heap.size + 1) 3 1 vf R.length (R.map cI)
  s : w.heap.size + 1 ≤ W.heap.size
section
variable {w W W' : World} {nw : Nat} {vf : Value} {U : List (BitVec 32)} {R : List Int}
theorem FoI.below (h : FoI w W nw vf U R) (hb : Below W.heap.size W W') : FoI w W' nw vf U R :=
  ⟨keepb hb h.b, own_b13 hb h.m, own_b13 hb h.r, Nat.le_trans h.s hb.size⟩
theorem FoI.ul (h : FoI w W nw vf U R) : U.length = nw := by have := h.m.1; simpa using this
theorem FoI.cell (h : FoI w W nw vf U R) (k : Nat) (hk : k / 32 < nw) : W.cell? ⟨w.heap.size, k / 32, none⟩ = some (.int .u32 (uI (U.getD (k / 32) 0#32))) ∧ W.frozen? ⟨w.heap.size, k / 32, none⟩ = false := by
  have hl := h.ul
  refine ⟨?_, h.m.frozenAt _⟩
  rw [h.m.cellAt (k / 32) (by omega), List.getElem?_map, List.getD_eq_getElem?_getD, List.getElem?_eq_getElem (by omega)]
  rfl
theorem FoI.set (h : FoI w W nw vf U R) (k : Nat) (hk : k / 32 < nw) : FoI w (W.setCell ⟨w.heap.size, k / 32, none⟩ (.int .u32 (uI (U.getD (k / 32) 0#32 ||| (cOne >>> (k % 32)))))).drew nw vf (setP U k) R := by
  have hs := (h.m.stored (k / 32) (.int .u32 (uI (U.getD (k / 32) 0#32 ||| (cOne >>> (k % 32)))))).1
  have e : (setP U k).map cU = (U.map cU).set (k / 32) (.int .u32 (uI (U.getD (k / 32) 0#32 ||| (cOne >>> (k % 32))))) := by
    unfold setP
    rw [List.map_set]; rfl
  refine ⟨(h.b.setCell (Nat.le_refl _) _).drew, ?_, ?_, ?_⟩
  · rw [e]; exact own_b13 (below_drewN (Below.refl _ _) 1) hs
  · exact own_b13 (below_drewN (Below.refl _ _) 1) (ownsRow_setCell_below h.r (Nat.lt_succ_self _) _)
  · have : (W.setCell ⟨w.heap.size, k / 32, none⟩ (.int .u32 (uI (U.getD (k / 32) 0#32 ||| (cOne >>> (k % 32)))))).drew.heap.size = W.heap.size := by simp [World.setCell, World.drew]
    rw [this]; exact h.s
theorem FoI.grown (h : FoI w W nw vf U R) {v' : Value} {x : Int} (ho : W'.ownsRow (w.heap.size + 1) 3 1 v' (R.length + 1) (R.map cI ++ [cI x])) (hg : W.grownBy W' vf.ownBlock) : FoI w W' nw v' U (R ++ [x]) := by
  refine ⟨h.b.grown hg (by have := h.s; omega) (fun k e => by have := (h.r.lt k e).1; omega), h.m.kept hg ?_, ?_, Nat.le_trans h.s hg.size⟩
  · cases e : vf.ownBlock with
    | none => exact .inr (by simp [Value.ownBlock])
    | some k => exact .inr (by have := (h.r.lt k e).1; simp only [Value.ownBlock, ne_eq, Option.some.injEq]; omega)
  · rw [List.length_append, List.map_append]
    exact ho
end
end Go.Proofs.YtiachojhnbicaaaDoor
