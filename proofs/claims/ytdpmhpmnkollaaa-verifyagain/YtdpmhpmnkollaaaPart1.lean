/-
  Part 1 of the proof: 20 texts, one behind the other.
-/
import Derived.WalkKit
import Derived.WalkSpells
import Derived.WalkLawsBesides
import Derived.Test.YtdpmhpmnkollaaaRows
import Derived.Deep.RegionHeld3
import Derived.Laws.AppendOwnNone
import Derived.Deep.LoopGhost
import Derived.Defers
import Derived.Recover
import Derived.Lib.AppendZerosOnto
import Derived.WalkMore
import Derived.ScopeJumps
import Derived.Deep.AppendLies
import Derived.Lib.SlBytesConst
import Derived.Deep.QuietTactic
import Derived.BigQuiet
import Derived.Laws.IdiomStrings
namespace Go.Proofs.Ytdpmhpmnkollaaa
open Go.RowKit
set_option linter.unusedSimpArgs false
set_option linter.unusedVariables false

def hv (x : BitVec 128) : BitVec 64 := x.extractLsb' 64 64
def lv (x : BitVec 128) : BitVec 64 := x.extractLsb' 0 64
def hI (x : BitVec 128) : Int := ((hv x).toNat : Int)
def lI (x : BitVec 128) : Int := ((lv x).toNat : Int)
def mkW (h l : Int) : BitVec 128 := (BitVec.ofInt 64 h) ++ (BitVec.ofInt 64 l)

theorem hv_mk (h l : Int) : hv (mkW h l) = BitVec.ofInt 64 h := by
  unfold hv mkW; exact BitVec.extractLsb'_append_eq_left
theorem lv_mk (h l : Int) : lv (mkW h l) = BitVec.ofInt 64 l := by
  unfold lv mkW; exact BitVec.extractLsb'_append_eq_right
theorem hI_mk (h l : Int) (h0 : 0 ≤ h) (h1 : h < 18446744073709551616) : hI (mkW h l) = h := by
  unfold hI; rw [hv_mk]; simp [BitVec.toNat_ofInt]; omega
theorem lI_mk (h l : Int) (h0 : 0 ≤ l) (h1 : l < 18446744073709551616) : lI (mkW h l) = l := by
  unfold lI; rw [lv_mk]; simp [BitVec.toNat_ofInt]; omega

theorem hv_bit (x : BitVec 128) (i : Nat) : (hv x).getLsbD i = (decide (i < 64) && x.getLsbD (64 + i)) := by
  unfold hv; simp
theorem lv_bit (x : BitVec 128) (i : Nat) : (lv x).getLsbD i = (decide (i < 64) && x.getLsbD i) := by
  unfold lv; simp

theorem eq_halves {x y : BitVec 128} (h : hv x = hv y) (l : lv x = lv y) : x = y := by
  apply BitVec.eq_of_getLsbD_eq
  intro i hi
  by_cases c : i < 64
  · have := congrArg (fun z => z.getLsbD i) l
    simpa only [lv_bit, c, decide_true, Bool.true_and] using this
  · have := congrArg (fun z => z.getLsbD (i - 64)) h
    have e : 64 + (i - 64) = i := by omega
    have d : i - 64 < 64 := by omega
    simpa only [hv_bit, e, d, decide_true, Bool.true_and] using this
theorem eq_ints {x y : BitVec 128} (h : hI x = hI y) (l : lI x = lI y) : x = y := by
  apply eq_halves
  · apply BitVec.eq_of_toNat_eq; unfold hI at h; omega
  · apply BitVec.eq_of_toNat_eq; unfold lI at l; omega
theorem beq_ints (x y : BitVec 128) : (hI x == hI y && lI x == lI y) = (x == y) := by
  rw [Bool.eq_iff_iff]; simp only [Bool.and_eq_true, beq_iff_eq]
  exact ⟨fun h => eq_ints h.1 h.2, fun h => by rw [h]; exact ⟨rfl, rfl⟩⟩
theorem wrap_nat (n : Nat) (h : n < 18446744073709551616) : IntKind.u64.wrap (n : Int) = (n : Int) := by
  simp [IntKind.wrap, IntKind.bits, IntKind.signed]; omega
theorem bits64and (a b c : BitVec 64) (h : c = a &&& b) : bits .and .u64 (a.toNat : Int) (b.toNat : Int) = (c.toNat : Int) := by
  subst h; unfold bits
  simp only [IntKind.bits, BitVec.ofInt_natCast, BitVec.ofNat_toNat, BitVec.setWidth_eq]
  rw [wrap_nat _ (BitVec.isLt _)]; rfl
theorem shr64 (a : BitVec 64) (n : Nat) : (a.toNat : Int) / 2 ^ n = ((a >>> n).toNat : Int) := by
  simp [BitVec.toNat_ushiftRight, Nat.shiftRight_eq_div_pow]

theorem hI_zero : hI 0#128 = 0 := by decide
theorem lI_zero : lI 0#128 = 0 := by decide
end Go.Proofs.Ytdpmhpmnkollaaa
namespace Go.Proofs.Ytdpmhpmnkollaaa
open Go.RowKit
set_option linter.unusedSimpArgs false
set_option linter.unusedVariables false

theorem bl1 (w : World) (o : Obj) : Below w.heap.size w (w.alloc o) := (Below.refl _ _).alloc (Nat.le_refl _) _
theorem bl2 (w : World) (o p : Obj) : Below w.heap.size w ((w.alloc o).alloc p) := (bl1 w o).alloc (by simp) _
theorem bl3 (w : World) (o p q : Obj) : Below w.heap.size w (((w.alloc o).alloc p).alloc q) := (bl2 w o p).alloc (by simp; omega) _

end Go.Proofs.Ytdpmhpmnkollaaa
namespace Go.Proofs.Ytdpmhpmnkollaaa
open Go.RowKit
set_option linter.unusedSimpArgs false
set_option linter.unusedVariables false

theorem hvN (x : BitVec 128) : (hv x).toNat = x.toNat / 18446744073709551616 := by
  unfold hv; rw [BitVec.extractLsb'_toNat, Nat.shiftRight_eq_div_pow]
  have := x.isLt; omega
theorem lvN (x : BitVec 128) : (lv x).toNat = x.toNat % 18446744073709551616 := by
  unfold lv; rw [BitVec.extractLsb'_toNat, Nat.shiftRight_eq_div_pow]
  simp
theorem hIN (x : BitVec 128) : hI x = ((x.toNat / 18446744073709551616 : Nat) : Int) := by unfold hI; rw [hvN]
theorem lIN (x : BitVec 128) : lI x = ((x.toNat % 18446744073709551616 : Nat) : Int) := by unfold lI; rw [lvN]

def cmpZ (x y : BitVec 128) : Int := if x.toNat < y.toNat then -1 else if x = y then 0 else 1

theorem ltN (x y : BitVec 128) : x.toNat < y.toNat ↔ hI x < hI y ∨ hI x = hI y ∧ lI x < lI y := by
  rw [hIN, hIN, lIN, lIN]
  have := x.isLt; have := y.isLt; omega
theorem cmp_ways (x y : BitVec 128) : (hI x < hI y ∧ cmpZ x y = -1) ∨ (hI x = hI y ∧ lI x < lI y ∧ cmpZ x y = -1) ∨ (x = y ∧ cmpZ x y = 0) ∨ (hI y < hI x ∧ cmpZ x y = 1) ∨ (hI x = hI y ∧ lI y < lI x ∧ cmpZ x y = 1) := by
  by_cases a : x.toNat < y.toNat
  · have c : cmpZ x y = -1 := by unfold cmpZ; rw [if_pos a]
    rcases (ltN x y).mp a with h | ⟨h, g⟩
    · exact Or.inl ⟨h, c⟩
    · exact Or.inr (Or.inl ⟨h, g, c⟩)
  · by_cases b : x = y
    · exact Or.inr (Or.inr (Or.inl ⟨b, by unfold cmpZ; rw [if_neg a, if_pos b]⟩))
    · have c : cmpZ x y = 1 := by unfold cmpZ; rw [if_neg a, if_neg b]
      have d : y.toNat < x.toNat := by
        have : x.toNat ≠ y.toNat := fun h => b (BitVec.eq_of_toNat_eq h)
        omega
      rcases (ltN y x).mp d with h | ⟨h, g⟩
      · exact Or.inr (Or.inr (Or.inr (Or.inl ⟨h, c⟩)))
      · exact Or.inr (Or.inr (Or.inr (Or.inr ⟨h.symm, g, c⟩)))
def bitB (x : BitVec 128) (i : Int) : Bool := decide (0 ≤ i) && x.getMsbD i.toNat
def bitZ (x : BitVec 128) (i : Int) : Int := if bitB x i then 1 else 0
theorem bitZ_out (x : BitVec 128) (i : Int) (h : i < 0 ∨ 127 < i) : bitZ x i = 0 := by
  unfold bitZ bitB
  rcases h with h | h
  · have : ¬ 0 ≤ i := by omega
    simp [this]
  · have : x.getMsbD i.toNat = false := by unfold BitVec.getMsbD; simp; omega
    simp [this]
theorem one64 : (1 : Int) = ((1#64).toNat : Int) := by decide
theorem and1 (a : BitVec 64) : bits .and .u64 (a.toNat : Int) 1 = if a.getLsbD 0 then 1 else 0 := by
  rw [one64, bits64and _ _ _ rfl]
  have : (a &&& 1#64) = if a.getLsbD 0 then 1#64 else 0#64 := by
    apply BitVec.eq_of_getLsbD_eq; intro i hi
    by_cases c : i = 0
    · subst c; cases h : a.getLsbD 0 <;> simp [← BitVec.getLsbD_eq_getElem, h]
    · cases h : a.getLsbD 0 <;> simp [h, c]
  rw [this]; split <;> rfl
theorem wrap64_ite (b : Bool) : wrap64 (if b then 1 else 0) = if b then 1 else 0 := by cases b <;> simp [wrap64]
theorem bitB_in (x : BitVec 128) (i : Int) (h : 0 ≤ i) (g : i ≤ 127) : bitB x i = x.getLsbD (127 - i).toNat := by
  unfold bitB BitVec.getMsbD
  have e : 128 - 1 - i.toNat = (127 - i).toNat := by omega
  have c : i.toNat < 128 := by omega
  simp only [h, c, e, decide_true, Bool.true_and]
theorem bit_hi (x : BitVec 128) (i : Int) (h : 0 ≤ i) (g : i < 64) : wrap64 (bits .and .u64 (hI x / 2 ^ (63 - i).toNat) 1) = bitZ x i := by
  unfold hI bitZ
  rw [shr64, and1, wrap64_ite, bitB_in x i h (by omega)]
  have e : 64 + (63 - i).toNat = (127 - i).toNat := by omega
  have c : (63 - i).toNat < 64 := by omega
  simp only [hv_bit, BitVec.getLsbD_ushiftRight, Nat.add_zero, e, c, decide_true, Bool.true_and]
theorem bit_lo (x : BitVec 128) (i : Int) (h : 64 ≤ i) (g : i ≤ 127) : wrap64 (bits .and .u64 (lI x / 2 ^ (127 - i).toNat) 1) = bitZ x i := by
  unfold lI bitZ
  rw [shr64, and1, wrap64_ite, bitB_in x i (by omega) g]
  have c : (127 - i).toNat < 64 := by omega
  simp only [lv_bit, BitVec.getLsbD_ushiftRight, Nat.add_zero, c, decide_true, Bool.true_and]

end Go.Proofs.Ytdpmhpmnkollaaa
namespace Go.Proofs.Ytdpmhpmnkollaaa
open Go.RowKit
set_option linter.unusedSimpArgs false
set_option linter.unusedVariables false

theorem bcell {W w1 : World} (hb : Below W.heap.size W w1) : (∀ b o, b < W.heap.size → w1.cell? ⟨b, o, none⟩ = W.cell? ⟨b, o, none⟩) ∧ (∀ b o, b < W.heap.size → w1.frozen? ⟨b, o, none⟩ = W.frozen? ⟨b, o, none⟩) :=
  ⟨fun b o h => hb.cell (p := ⟨b, o, none⟩) h, fun b o h => hb.frozen (p := ⟨b, o, none⟩) h⟩

end Go.Proofs.Ytdpmhpmnkollaaa
namespace Go.Proofs.Ytdpmhpmnkollaaa
open Go.RowKit
set_option linter.unusedSimpArgs false
set_option linter.unusedVariables false

theorem cell_in {W : World} {b o : Nat} {v : Value} (h : W.cell? ⟨b, o, none⟩ = some v) : b < W.heap.size := by
  apply Classical.byContradiction; intro hn
  have : W.heap[b]? = none := by simp; omega
  simp [World.cell?, this] at h
theorem keepc {W w' : World} (hb : Below W.heap.size W w') {b o : Nat} {v : Value} (h : W.cell? ⟨b, o, none⟩ = some v) : w'.cell? ⟨b, o, none⟩ = some v := by
  rw [(bcell hb).1 b o (cell_in h)]; exact h
theorem keepf {W w' : World} (hb : Below W.heap.size W w') {b o : Nat} {v : Value} (h : W.cell? ⟨b, o, none⟩ = some v) (hf : W.frozen? ⟨b, o, none⟩ = false) : w'.frozen? ⟨b, o, none⟩ = false := by
  rw [(bcell hb).2 b o (cell_in h)]; exact hf
theorem keepb {w W w' : World} (hb : Below W.heap.size W w') (h : Below w.heap.size w W) : Below w.heap.size w w' := h.trans (hb.mono h.size)

def cv (w : World) (b o : Nat) : Value := (w.cell? ⟨b, o, none⟩).getD (.bool false)
end Go.Proofs.Ytdpmhpmnkollaaa
namespace Go.Proofs.Ytdpmhpmnkollaaa
open Go.RowKit
set_option linter.unusedSimpArgs false
set_option linter.unusedVariables false

def Row (w : World) (size : Nat) (v : Value) (n : Nat) (xs : List Value) : Prop :=
  xs.length = n * size ∧ ∃ ao c, v = .slice ao n c ∧ n ≤ c ∧ ((ao = none ∧ c = 0 ∧ n = 0) ∨ ∃ b off, ao = some ⟨b, off, none⟩ ∧ ∀ j u, xs[j]? = some u → w.cell? ⟨b, off + j, none⟩ = some u)
theorem addA (g o j : Nat) : (⟨g, o, none⟩ : Addr).add j = ⟨g, o + j, none⟩ := by unfold Addr.add; split <;> simp_all
theorem own_row {w : World} {base e size n : Nat} {v : Value} {xs : List Value} (h : w.ownsRow base e size v n xs) : Row w size v n xs := by
  refine ⟨h.1, ?_⟩
  rcases h.2 with ⟨e0, e1⟩ | ⟨g, cap, cur, e0, hb, hg, hnc, hm, hs, ht⟩
  · subst e1
    exact ⟨none, 0, e0, Nat.le_refl _, .inl ⟨rfl, rfl, rfl⟩⟩
  · refine ⟨some ⟨g, 0, none⟩, cap, e0, hnc, .inr ⟨g, 0, rfl, ?_⟩⟩
    intro j u hj
    have f := h.cells (g := g) (by rw [e0]; rfl) j u hj
    rw [addA, Nat.zero_add] at f
    rw [Nat.zero_add]
    exact f
theorem own_form {w : World} {base e size n : Nat} {v : Value} {xs : List Value} (h : w.ownsRow base e size v n xs) : ∃ ao c, v = .slice ao n c := by
  rcases h.2 with ⟨e, h⟩ | ⟨g, cap, cur, e, _⟩
  · exact ⟨none, 0, by rw [h]; exact e⟩
  · exact ⟨_, _, e⟩
theorem Row.below {w w' : World} {size n : Nat} {v : Value} {xs : List Value} (h : Row w size v n xs) (hb : Below w.heap.size w w') : Row w' size v n xs := by
  obtain ⟨hl, ao, c, e, hc, h⟩ := h
  refine ⟨hl, ao, c, e, hc, ?_⟩
  rcases h with h | ⟨b, off, e, h⟩
  · exact .inl h
  · exact .inr ⟨b, off, e, fun j u hj => keepc hb (h j u hj)⟩
end Go.Proofs.Ytdpmhpmnkollaaa
namespace Go.Proofs.Ytdpmhpmnkollaaa
open Go.RowKit
set_option linter.unusedSimpArgs false
set_option linter.unusedVariables false

theorem spot9 {W : World} {a : Addr} {u : Value} (h : W.cell? a = some u) : a = ⟨a.block, a.off, none⟩ := by
  obtain ⟨b, o, s⟩ := a
  cases s with
  | none => rfl
  | some z =>
    unfold World.cell? at h
    split at h
    · simp at h
    · cases h
def RowA (w : World) (size : Nat) (v : Value) (n : Nat) (xs : List Value) : Prop :=
  xs.length = n * size ∧ ∃ ao c, v = .slice ao n c ∧ n ≤ c ∧ ((ao = none ∧ c = 0 ∧ n = 0) ∨ ∃ a : Addr, ao = some a ∧ ∀ j u, xs[j]? = some u → w.cell? (a.add j) = some u)
theorem RowA.below {w w' : World} {size n : Nat} {v : Value} {xs : List Value} (h : RowA w size v n xs) (hb : Below w.heap.size w w') : RowA w' size v n xs := by
  obtain ⟨hl, ao, c, e, hc, h⟩ := h
  refine ⟨hl, ao, c, e, hc, ?_⟩
  rcases h with h | ⟨a, e, h⟩
  · exact .inl h
  · refine .inr ⟨a, e, fun j u hj => ?_⟩
    have f := h j u hj
    have sp := spot9 f
    rw [sp]
    rw [sp] at f
    exact keepc hb f
theorem wpList_append_rowA {P : Program} {w : World} {ops : Array Oper} {rest : List Oper} {o : Oper} {a : Act} {Q : Exit → Act → World → Prop} (hgd : o.guard = none) (s x : Operand) (t : TypeId)
    (ho : o.op = .call { callee := .builtin .append, args := #[s, x], argTypes := #[t, t] })
    (base : Nat) (e : TypeId) (i : TypeInfo) (z : Value) (size bytes : Nat) (ht : P.underlying t = some (.slice e)) (hi : P.info? e = some i) (hz : i.zero = some z)
    (hsize : i.size = size) (hby : i.bytes = bytes) (hzs : z.cells.size = size) (hsz : 0 < size)
    (v : Value) (n : Nat) (xs : List Value) (hs : a.eval s = v) (hown : w.ownsRow base e size v n xs)
    (vx : Value) (m : Nat) (news : List Value) (hx : a.eval x = vx) (hsrc : RowA w size vx m news) (h1 : ∀ y ∈ news, y.oneCell' = true)
    (h63 : n + m ≤ maxLen) (hbytes : (n + m) * bytes ≤ 140737488355328) (hbase : base ≤ w.heap.size)
    (h : ∀ ao cap w', w'.ownsRow base e size (.slice ao (n + m) cap) (n + m) (xs ++ news) → w.grownBy w' v.ownBlock → wpList P ops Q rest (a.put o.dst (.slice ao (n + m) cap)) w') : wpList P ops Q (o :: rest) a w := by
  obtain ⟨hl, xo, c, rfl, hcc, hsrc⟩ := hsrc
  rcases hsrc with ⟨rfl, rfl, rfl⟩ | ⟨ad, rfl, hc⟩
  · have : news = [] := List.eq_nil_of_length_eq_zero (by omega)
    subst this
    refine wpList_append_own_none hgd s x t ho base e i size ht hi v n xs hs hown hx ?_
    obtain ⟨ao, cp, hv⟩ := own_form hown
    have := h ao cp w (by rw [List.append_nil, Nat.add_zero, ← hv]; exact hown) ⟨rfl, rfl, rfl, Nat.le_refl _, fun _ _ _ => rfl⟩
    rw [Nat.add_zero, ← hv] at this
    exact this
  · refine wpList_append_own w hgd s x t ho base e i z size bytes ht hi hz hsize hby hzs hsz v n xs hs hown ad m c news hx hl hc h1 h63 hbytes hbase ?_
    intro v' w' h2 h3 _
    obtain ⟨ao, cp, hv⟩ := own_form h2
    rw [hv]
    rw [hv] at h2
    exact h ao cp w' h2 h3
theorem stopHere9 {P : Program} {w : World} {ops : Array Oper} {rest : List Oper} {a : Act} {Q : Exit → Act → World → Prop} {o : Oper} (h : Hid (wpList P ops Q (o :: rest) a w)) : wpList P ops Q (o :: rest) a w := h.out
end Go.Proofs.Ytdpmhpmnkollaaa
namespace Go.Proofs.Ytdpmhpmnkollaaa
open Go.RowKit
set_option linter.unusedSimpArgs false
set_option linter.unusedVariables false

def cM : BitVec 32 := 0x82F63B78#32
def hb (x : BitVec 32) : BitVec 32 := (x >>> 1) ^^^ (if x.getLsbD 0 then cM else 0#32)
def hbN : Nat → BitVec 32 → BitVec 32
  | 0, x => x
  | n + 1, x => hbN n (hb x)
theorem x4 (a b c d : BitVec 32) : (a ^^^ b) ^^^ (c ^^^ d) = (a ^^^ c) ^^^ (b ^^^ d) := by
  rw [BitVec.xor_assoc, BitVec.xor_assoc, ← BitVec.xor_assoc b c d, BitVec.xor_comm b c, BitVec.xor_assoc c b d]
def stp (c : BitVec 32) (b : Nat) : BitVec 32 := hbN 8 (c ^^^ BitVec.ofNat 32 b)
def crF (c : BitVec 32) (l : List Nat) : BitVec 32 := l.foldl stp c
def tp (k : Nat) : BitVec 32 := BitVec.twoPow 32 k
def cOne : BitVec 32 := 0x80000000#32
end Go.Proofs.Ytdpmhpmnkollaaa
namespace Go.Proofs.Ytdpmhpmnkollaaa
open Go.RowKit
set_option linter.unusedSimpArgs false
set_option linter.unusedVariables false

theorem uI_ex (x : BitVec 32) : ∃ n : Int, n = (x.toNat : Int) := ⟨_, rfl⟩
noncomputable def uI (x : BitVec 32) : Int := Classical.choose (uI_ex x)
theorem uI_eq (x : BitVec 32) : uI x = (x.toNat : Int) := Classical.choose_spec (uI_ex x)
theorem uI_lo (x : BitVec 32) : 0 ≤ uI x := by rw [uI_eq]; omega
theorem uI_up (x : BitVec 32) : uI x < 4294967296 := by rw [uI_eq]; have := x.isLt; omega
theorem uI_inj {x y : BitVec 32} (h : uI x = uI y) : x = y := by
  rw [uI_eq, uI_eq] at h
  exact BitVec.eq_of_toNat_eq (by omega)
theorem uI_of (n : Nat) (h : n < 4294967296) : uI (BitVec.ofNat 32 n) = (n : Int) := by
  rw [uI_eq, BitVec.toNat_ofNat]
  have : (2 : Nat) ^ 32 = 4294967296 := by decide
  omega
theorem uI_zero : uI 0#32 = 0 := by rw [uI_eq]; rfl
theorem uI_is0 (x : BitVec 32) : (uI x = 0) ↔ x = 0#32 := ⟨fun h => uI_inj (h.trans uI_zero.symm), fun h => by rw [h, uI_zero]⟩
theorem wrap32n (n : Nat) (h : n < 4294967296) : IntKind.u32.wrap (n : Int) = (n : Int) := by
  simp [IntKind.wrap, IntKind.bits, IntKind.signed]; omega
theorem b32 (a b : BitVec 32) : BitVec.ofInt 32 (uI a) = a := by rw [uI_eq]; simp
theorem and32 (a b : BitVec 32) : bits .and .u32 (uI a) (uI b) = uI (a &&& b) := by
  unfold bits
  simp only [IntKind.bits]
  rw [b32 a a, b32 b b, wrap32n _ (BitVec.isLt _), uI_eq]; rfl
theorem or32 (a b : BitVec 32) : bits .or .u32 (uI a) (uI b) = uI (a ||| b) := by
  unfold bits
  simp only [IntKind.bits]
  rw [b32 a a, b32 b b, wrap32n _ (BitVec.isLt _), uI_eq]; rfl
theorem shl32 (a : BitVec 32) (n : Nat) : uI a * 2 ^ n % 4294967296 = uI (a <<< n) := by
  rw [uI_eq, uI_eq, BitVec.toNat_shiftLeft, Nat.shiftLeft_eq]; simp
theorem lit32 (n : Nat) (h : n < 4294967296) : ((n : Nat) : Int) = uI (BitVec.ofNat 32 n) := (uI_of n h).symm
end Go.Proofs.Ytdpmhpmnkollaaa
namespace Go.Proofs.Ytdpmhpmnkollaaa
open Go.RowKit
set_option linter.unusedSimpArgs false
set_option linter.unusedVariables false

theorem hid13 {p : Prop} (h : p) : Hid p := h
def cB (b : Nat) : Value := .int .u8 (b : Int)
noncomputable def cU (x : BitVec 32) : Value := .int .u32 (uI x)
def cI (n : Int) : Value := .int .i64 n
def RwX {α : Type} (f : α → Value) (w : World) (v : Value) (l : List α) : Prop :=
  ∃ ao c, v = .slice ao l.length c ∧ l.length ≤ c ∧ (l = [] ∨ ∃ b off, ao = some ⟨b, off, none⟩ ∧ ∀ j x, l[j]? = some x → w.cell? ⟨b, off + j, none⟩ = some (f x))
section
variable {α : Type} {f : α → Value} {w w' : World} {v : Value} {l : List α}
theorem RwX.below (h : RwX f w v l) (hb : Below w.heap.size w w') : RwX f w' v l := by
  obtain ⟨ao, c, e, hc, h⟩ := h
  refine ⟨ao, c, e, hc, ?_⟩
  rcases h with h | ⟨b, off, e, h⟩
  · exact .inl h
  · exact .inr ⟨b, off, e, fun j x hj => keepc hb (h j x hj)⟩
theorem own_rwx {base e : Nat} (h : w.ownsRow base e 1 v l.length (l.map f)) : RwX f w v l := by
  obtain ⟨-, ao, c, e, hc, h⟩ := own_row h
  refine ⟨ao, c, e, hc, ?_⟩
  rcases h with ⟨-, -, h⟩ | ⟨b, off, e, h⟩
  · exact .inl (List.eq_nil_of_length_eq_zero h)
  · exact .inr ⟨b, off, e, fun j x hj => h j _ (by rw [List.getElem?_map, hj]; rfl)⟩
theorem own_rowA {w : World} {base e size n : Nat} {v : Value} {xs : List Value} (h : w.ownsRow base e size v n xs) : RowA w size v n xs := by
  obtain ⟨h1, ao, c, h2, h3, h4⟩ := own_row h
  refine ⟨h1, ao, c, h2, h3, ?_⟩
  rcases h4 with h4 | ⟨b, off, h5, h6⟩
  · exact .inl h4
  · exact .inr ⟨_, h5, fun j u hj => by rw [addA]; exact h6 j u hj⟩
end
end Go.Proofs.Ytdpmhpmnkollaaa
namespace Go.Proofs.Ytdpmhpmnkollaaa
open Go.RowKit
set_option linter.unusedSimpArgs false
set_option linter.unusedVariables false

theorem Try.infoU13 : (Try.prog.info? 96).map (fun i => (i.zero, i.size, i.bytes)) = some (some (.int .u32 0), 1, 4) := by kernel_rfl
theorem info13 {P : Program} {t : TypeId} {z : Value} {s b : Nat} (h : (P.info? t).map (fun i => (i.zero, i.size, i.bytes)) = some (some z, s, b)) : ∃ i, P.info? t = some i ∧ i.zero = some z ∧ i.size = s ∧ i.bytes = b := by
  cases hi : P.info? t with
  | none => rw [hi] at h; cases h
  | some i =>
    rw [hi] at h
    simp only [Option.map_some, Option.some.injEq, Prod.mk.injEq] at h
    exact ⟨i, rfl, h.1, h.2.1, h.2.2⟩
theorem own_b13 {base e size n : Nat} {v : Value} {xs : List Value} {W w' : World} (hb : Below W.heap.size W w') (h : W.ownsRow base e size v n xs) : w'.ownsRow base e size v n xs := by
  refine h.kept (row := none) ⟨hb.os, hb.tape, hb.output, hb.size, fun k hk _ => hb.block k hk⟩ ?_
  cases v.ownBlock with
  | none => exact Or.inl rfl
  | some a => exact Or.inr (by simp)
theorem news13 {W : World} {N : Nat} {v : Value} (h : W.cell? ⟨N, 0, none⟩ = some v) : ∀ j u, [v][j]? = some u → W.cell? ((⟨N, 0, none⟩ : Addr).add j) = some u := by
  intro j u hj
  rw [addA, Nat.zero_add]
  match j, hj with
  | 0, hj => simp at hj; subst hj; exact h
end Go.Proofs.Ytdpmhpmnkollaaa
namespace Go.Proofs.Ytdpmhpmnkollaaa
open Go.RowKit
set_option linter.unusedSimpArgs false
set_option linter.unusedVariables false

theorem Try.infoB13 : (Try.prog.info? 5).map (fun i => (i.zero, i.size, i.bytes)) = some (some (.int .u8 0), 1, 1) := by kernel_rfl
theorem cB_one (l : List Nat) : ∀ y ∈ l.map cB, y.oneCell' = true := by
  intro y hy
  obtain ⟨x, -, rfl⟩ := List.mem_map.1 hy
  rfl
end Go.Proofs.Ytdpmhpmnkollaaa
namespace Go.Proofs.Ytdpmhpmnkollaaa
open Go.RowKit
set_option linter.unusedSimpArgs false
set_option linter.unusedVariables false

def intOf13 : Value → Int | .int _ q => q | _ => 0
def AlI (l : List Nat) (ao : Option Addr) (cc : Nat) (c : BitVec 32) (a' : Act) : Prop := ∃ (k : Nat) (C : BitVec 32) (u6 u7 u8 u9 u10 u11 u12 u13 u14 u15 u16 u17 u18 u19 u20 u21 u22 u23 u24 u25 u26 u27 u28 u29 u30 u31 u32 u33 : Value), a' = { tmps := #[.int .u32 (uI C), .slice ao l.length cc, undef, undef, .int .u32 0, .int .i64 (k : Int), u6, u7, u8, u9, u10, u11, u12, u13, u14, u15, u16, u17, u18, u19, u20, u21, u22, u23, u24, u25, u26, u27, u28, u29, u30, u31, u32, u33], defers := [] } ∧ k ≤ l.length ∧ Hid (crF C (l.drop k) = crF c l)
theorem AlI.mk {l : List Nat} {ao : Option Addr} {cc : Nat} {c : BitVec 32} (k : Nat) (C : BitVec 32) (u6 u7 u8 u9 u10 u11 u12 u13 u14 u15 u16 u17 u18 u19 u20 u21 u22 u23 u24 u25 u26 u27 u28 u29 u30 u31 u32 u33 : Value) (hk : k ≤ l.length) (h : Hid (crF C (l.drop k) = crF c l)) : AlI l ao cc c { tmps := #[.int .u32 (uI C), .slice ao l.length cc, undef, undef, .int .u32 0, .int .i64 (k : Int), u6, u7, u8, u9, u10, u11, u12, u13, u14, u15, u16, u17, u18, u19, u20, u21, u22, u23, u24, u25, u26, u27, u28, u29, u30, u31, u32, u33], defers := [] } := ⟨k, C, u6, u7, u8, u9, u10, u11, u12, u13, u14, u15, u16, u17, u18, u19, u20, u21, u22, u23, u24, u25, u26, u27, u28, u29, u30, u31, u32, u33, rfl, hk, h⟩
end Go.Proofs.Ytdpmhpmnkollaaa
namespace Go.Proofs.Ytdpmhpmnkollaaa
open Go.RowKit
set_option linter.unusedSimpArgs false
set_option linter.unusedVariables false

def setP (U : List (BitVec 32)) (k : Nat) : List (BitVec 32) := U.set (k / 32) (U.getD (k / 32) 0#32 ||| (cOne >>> (k % 32)))
section
variable {α : Type} [DecidableEq α]
end
end Go.Proofs.Ytdpmhpmnkollaaa
namespace Go.Proofs.Ytdpmhpmnkollaaa
open Go.RowKit
set_option linter.unusedSimpArgs false
set_option linter.unusedVariables false

structure FoI (w W : World) (nw : Nat) (vf : Value) (U : List (BitVec 32)) (R : List Int) : Prop where
  b : Below w.heap.size w W
  m : W.ownsRow w.heap.size 96 1 (.slice (some ⟨w.heap.size, 0, none⟩) nw nw) nw (U.map cU)
  r : W.ownsRow (w.heap.size + 1) 3 1 vf R.length (R.map cI)
  s : w.heap.size + 1 ≤ W.heap.size
section
variable {w W W' : World} {nw : Nat} {vf : Value} {U : List (BitVec 32)} {R : List Int}
theorem FoI.below (h : FoI w W nw vf U R) (hb : Below W.heap.size W W') : FoI w W' nw vf U R :=
  ⟨keepb hb h.b, own_b13 hb h.m, own_b13 hb h.r, Nat.le_trans h.s hb.size⟩
theorem FoI.ul (h : FoI w W nw vf U R) : U.length = nw := by have := h.m.1; simpa using this
theorem FoI.cell (h : FoI w W nw vf U R) (k : Nat) (hk : k / 32 < nw) : W.cell? ⟨w.heap.size, k / 32, none⟩ = some (.int .u32 (uI (U.getD (k / 32) 0#32))) ∧ W.frozen? ⟨w.heap.size, k / 32, none⟩ = false := by
  have hl := h.ul
  refine ⟨?_, h.m.frozenAt _⟩
  rw [h.m.cellAt (k / 32) (by omega), List.getElem?_map, List.getD_eq_getElem?_getD, List.getElem?_eq_getElem (by omega)]
  rfl
theorem FoI.set (h : FoI w W nw vf U R) (k : Nat) (hk : k / 32 < nw) : FoI w (W.setCell ⟨w.heap.size, k / 32, none⟩ (.int .u32 (uI (U.getD (k / 32) 0#32 ||| (cOne >>> (k % 32)))))).drew nw vf (setP U k) R := by
  have hs := (h.m.stored (k / 32) (.int .u32 (uI (U.getD (k / 32) 0#32 ||| (cOne >>> (k % 32)))))).1
  have e : (setP U k).map cU = (U.map cU).set (k / 32) (.int .u32 (uI (U.getD (k / 32) 0#32 ||| (cOne >>> (k % 32))))) := by
    unfold setP
    rw [List.map_set]; rfl
  refine ⟨(h.b.setCell (Nat.le_refl _) _).drew, ?_, ?_, ?_⟩
  · rw [e]; exact own_b13 (below_drewN (Below.refl _ _) 1) hs
  · exact own_b13 (below_drewN (Below.refl _ _) 1) (ownsRow_setCell_below h.r (Nat.lt_succ_self _) _)
  · have : (W.setCell ⟨w.heap.size, k / 32, none⟩ (.int .u32 (uI (U.getD (k / 32) 0#32 ||| (cOne >>> (k % 32)))))).drew.heap.size = W.heap.size := by simp [World.setCell, World.drew]
    rw [this]; exact h.s
theorem FoI.grown (h : FoI w W nw vf U R) {v' : Value} {x : Int} (ho : W'.ownsRow (w.heap.size + 1) 3 1 v' (R.length + 1) (R.map cI ++ [cI x])) (hg : W.grownBy W' vf.ownBlock) : FoI w W' nw v' U (R ++ [x]) := by
  refine ⟨h.b.grown hg (by have := h.s; omega) (fun k e => by have := (h.r.lt k e).1; omega), h.m.kept hg ?_, ?_, Nat.le_trans h.s hg.size⟩
  · cases e : vf.ownBlock with
    | none => exact .inr (by simp [Value.ownBlock])
    | some k => exact .inr (by have := (h.r.lt k e).1; simp only [Value.ownBlock, ne_eq, Option.some.injEq]; omega)
  · rw [List.length_append, List.map_append]
    exact ho
end
end Go.Proofs.Ytdpmhpmnkollaaa
namespace Go.Proofs.Ytdpmhpmnkollaaa
open Go.RowKit
set_option linter.unusedSimpArgs false
set_option linter.unusedVariables false

end Go.Proofs.Ytdpmhpmnkollaaa
namespace Go.Proofs.Ytdpmhpmnkollaaa
open Go.RowKit
set_option linter.unusedSimpArgs false
set_option linter.unusedVariables false

theorem q_run {P : Program} {ops : Array Oper} {C : World → Prop} {Q : Act → Prop} {a : Act} {o : Oper} {rest : List Oper} {v : Value}
    (hw : Region.wanted o (yielded ops a.tmps) = true) (h : ∀ w, C w → (execOp a.eval o).run P w = .ok (.value v) w) (k : wpQuiet P ops C Q rest (a.put o.dst v)) : wpQuiet P ops C Q (o :: rest) a := by
  refine wpQuiet_step (fun K hK => ?_)
  rw [if_pos hw]
  refine ⟨v, fun w hC => ?_, hK _ k⟩
  unfold Oper.quietAt; rw [h w hC]; exact ⟨rfl, rfl⟩
theorem q_skip {P : Program} {ops : Array Oper} {C : World → Prop} {Q : Act → Prop} {a : Act} {o : Oper} {rest : List Oper}
    (hw : Region.wanted o (yielded ops a.tmps) = false) (k : wpQuiet P ops C Q rest (a.put o.dst undef)) : wpQuiet P ops C Q (o :: rest) a := by
  refine wpQuiet_step (fun K hK => ?_)
  rw [if_neg (by rw [hw]; decide)]
  exact hK _ k
theorem q_call {P : Program} {ops : Array Oper} {C : World → Prop} {Q : Act → Prop} {a : Act} {o : Oper} {rest : List Oper} {v : Value} {f : FuncId} {args : Array Value}
    (hw : Region.wanted o (yielded ops a.tmps) = true) (h : ∀ w, C w → (execOp a.eval o).run P w = .ok (.enter f args) w) (hc : ∀ w, C w → Calls P f args w fun e w' => e = .returned v ∧ C w') (k : wpQuiet P ops C Q rest (a.put o.dst v)) : wpQuiet P ops C Q (o :: rest) a := by
  refine wpQuiet_step (fun K hK => ?_)
  rw [if_pos hw]
  refine ⟨v, fun w hC => ?_, hK _ k⟩
  unfold Oper.quietAt; rw [h w hC]; exact ⟨rfl, hc w hC⟩
theorem q_region {P : Program} {C : World → Prop} {id : Nat} {Q : Exit → Act → World → Prop} {a : Act} {w : World} {l : List Oper} (hm : P.follows .mixedOrders = true) (hB : Region.lexB .any l.toArray = true) (hC : C w.drew)
    (h : wpQuiet P l.toArray C (fun a' => ∀ w', C w' → Q .normal a' w') l a) : (Code.region id l.toArray true).wp P Q a w :=
  wp_region_quiet (C := C) hm hB hC (by simpa using h)
end Go.Proofs.Ytdpmhpmnkollaaa
namespace Go.Proofs.Ytdpmhpmnkollaaa
open Go.RowKit
set_option linter.unusedSimpArgs false
set_option linter.unusedVariables false

structure QW (P : Program) (ops : Array Oper) (C : World → Prop) (Q : Act → Prop) (l : List Oper) (a : Act) : Prop where
  out : wpQuiet P ops C Q l a
theorem qw_run {P : Program} {ops : Array Oper} {C : World → Prop} {Q : Act → Prop} {a : Act} {o : Oper} {rest : List Oper} {v : Value}
    (hw : Region.wanted o (yielded ops a.tmps) = true) (h : ∀ w, C w → (execOp a.eval o).run P w = .ok (.value v) w) (k : QW P ops C Q rest (a.put o.dst v)) : QW P ops C Q (o :: rest) a := ⟨q_run hw h k.out⟩
theorem qw_skip {P : Program} {ops : Array Oper} {C : World → Prop} {Q : Act → Prop} {a : Act} {o : Oper} {rest : List Oper}
    (hw : Region.wanted o (yielded ops a.tmps) = false) (k : QW P ops C Q rest (a.put o.dst undef)) : QW P ops C Q (o :: rest) a := ⟨q_skip hw k.out⟩
theorem qw_call {P : Program} {ops : Array Oper} {C : World → Prop} {Q : Act → Prop} {a : Act} {o : Oper} {rest : List Oper} {v : Value} {f : FuncId} {args : Array Value}
    (hw : Region.wanted o (yielded ops a.tmps) = true) (h : ∀ w, C w → (execOp a.eval o).run P w = .ok (.enter f args) w) (hc : ∀ w, C w → Calls P f args w fun e w' => e = .returned v ∧ C w') (k : QW P ops C Q rest (a.put o.dst v)) : QW P ops C Q (o :: rest) a := ⟨q_call hw h hc k.out⟩
theorem qw_nil {P : Program} {ops : Array Oper} {C : World → Prop} {Q : Act → Prop} {a : Act} (h : Q a) : QW P ops C Q [] a := ⟨wpQuiet_nil h⟩
theorem qw_region {P : Program} {C : World → Prop} {id : Nat} {Q : Exit → Act → World → Prop} {a : Act} {w : World} {l : List Oper} (hm : P.follows .mixedOrders = true) (hB : Region.lexB .any l.toArray = true) (hC : C w.drew)
    (h : QW P l.toArray C (fun a' => ∀ w', C w' → Q .normal a' w') l a) : (Code.region id l.toArray true).wp P Q a w := q_region hm hB hC h.out
end Go.Proofs.Ytdpmhpmnkollaaa
namespace Go.Proofs.Ytdpmhpmnkollaaa
open Go.RowKit
set_option linter.unusedSimpArgs false
set_option linter.unusedVariables false

def by4 (n : Nat) : List Nat := [n / 16777216, n / 65536 % 256, n / 256 % 256, n % 256]
theorem own_wide13 {w : World} {base base' e size n : Nat} {v : Value} {xs : List Value} (h : w.ownsRow base e size v n xs) (hb : base' ≤ base) : w.ownsRow base' e size v n xs := by
  refine ⟨h.1, ?_⟩
  rcases h.2 with hn | ⟨g, cap, cur, hv, h1, h2⟩
  · exact .inl hn
  · exact .inr ⟨g, cap, cur, hv, by omega, h2⟩
def numN13 (l : List Nat) : Nat := l.foldl (fun v b => v * 256 + b) 0
def gtN (l : List Nat) (n : Int) (k : Nat) : Nat := if 0 ≤ n ∧ n ≤ (l.length : Int) - k then numN13 ((l.drop n.toNat).take k) else 0
def gtE (l : List Nat) (n : Int) (k : Nat) : Int := if 0 ≤ n ∧ n ≤ (l.length : Int) - k then 0 else 30
theorem take4_of {l : List Nat} {j a b c d : Nat} (h0 : l[j + 0]? = some a) (h1 : l[j + 1]? = some b) (h2 : l[j + 2]? = some c) (h3 : l[j + 3]? = some d) : (l.drop j).take 4 = [a, b, c, d] := by
  apply List.ext_getElem?
  intro i
  rw [List.getElem?_take]
  match i with
  | 0 => simpa using h0
  | 1 => simpa using h1
  | 2 => simpa using h2
  | 3 => simpa using h3
  | i + 4 => rw [if_neg (by omega)]; rfl
theorem stand_any (ao : Option Addr) (m cc : Nat) (n k : Int) (w : World) (hk : 0 ≤ k ∧ k ≤ 100) (hm : m ≤ 140737488355328) :
    Calls Try.prog 121 #[.slice ao m cc, .int .i64 n, .int .i64 k] w fun e w' => e = .returned (.bool (decide (0 ≤ n) && decide (n ≤ (m : Int) - k))) ∧ w' = w := by
  have hw : IntKind.i64.wrap ((m : Int) - k) = (m : Int) - k := by rw [IntKind.wrap_i64]; omega
  by_cases h : 0 ≤ n
  · go_enter Try.func121, Try.ntmps121
    go_wp2
    go_ret
    exact ⟨by rw [decide_eq_true h]; rfl, rfl⟩
  · go_enter Try.func121, Try.ntmps121
    go_wp2
    go_ret
    exact ⟨by rw [decide_eq_false (by omega : ¬ 0 ≤ n)]; rfl, rfl⟩
theorem orN32 (A B i : Nat) (hA : A % 2 ^ i = 0) (hB : B < 2 ^ i) (h : A + B < 4294967296) (x y : Int) (hx : x = (A : Int)) (hy : y = (B : Int)) : bits .or .u32 x y = ((A + B : Nat) : Int) := by
  subst hx hy
  unfold bits
  simp only [IntKind.bits]
  have e : (BitVec.ofInt 32 (A : Int) ||| BitVec.ofInt 32 (B : Int)).toNat = A + B := by
    rw [BitVec.toNat_or]
    have e1 : (BitVec.ofInt 32 (A : Int)).toNat = A := by rw [BitVec.toNat_ofInt]; omega
    have e2 : (BitVec.ofInt 32 (B : Int)).toNat = B := by rw [BitVec.toNat_ofInt]; omega
    rw [e1, e2]
    have e3 : A = (A / 2 ^ i) <<< i := by
      rw [Nat.shiftLeft_eq]
      have := Nat.div_add_mod A (2 ^ i)
      rw [hA, Nat.mul_comm] at this
      omega
    rw [e3, ← Nat.shiftLeft_add_eq_or_of_lt hB]
  show IntKind.wrap .u32 (((BitVec.ofInt 32 (A : Int) ||| BitVec.ofInt 32 (B : Int)).toNat : Nat) : Int) = _
  rw [e]
  simp [IntKind.wrap, IntKind.bits, IntKind.signed]
  omega
set_option maxRecDepth 100000 in
set_option maxHeartbeats 8000000 in
theorem get32_any (v : Value) (l : List Nat) (n : Int) (w : World) (hv : RwX cB w v l) (hl : l.length ≤ 140737488355328) (hx : ∀ b ∈ l, b < 256) (h0 : -9223372036854775808 ≤ n) (h1 : n ≤ 9223372036854775807) :
    Calls Try.prog 100 #[v, .int .i64 n] w fun e w' => e = .returned (.tuple #[.int .u32 ((gtN l n 4 : Nat) : Int), .int .i64 (gtE l n 4)]) ∧ Below w.heap.size w w' := by
  obtain ⟨ao, cc, rfl, hc, hv⟩ := hv
  by_cases h : 0 ≤ n ∧ n ≤ (l.length : Int) - ((4 : Nat) : Int)
  · unfold gtN gtE
    rw [if_pos h, if_pos h]
    obtain ⟨j, rfl⟩ : ∃ j : Nat, n = (j : Int) := ⟨n.toNat, by omega⟩
    have hj : j + 4 ≤ l.length := by omega
    obtain ⟨bo, off, rfl, hcell⟩ : ∃ bo off, ao = some ⟨bo, off, none⟩ ∧ ∀ j x, l[j]? = some x → w.cell? ⟨bo, off + j, none⟩ = some (cB x) := by
      rcases hv with h | h
      · rw [h] at hj; simp at hj
      · exact h
    obtain ⟨b0, g0⟩ : ∃ x, l[j + 0]? = some x := ⟨l[j + 0]'(by omega), by simp [show j + 0 < l.length by omega]⟩
    obtain ⟨b1, g1⟩ : ∃ x, l[j + 1]? = some x := ⟨l[j + 1]'(by omega), by simp [show j + 1 < l.length by omega]⟩
    obtain ⟨b2, g2⟩ : ∃ x, l[j + 2]? = some x := ⟨l[j + 2]'(by omega), by simp [show j + 2 < l.length by omega]⟩
    obtain ⟨b3, g3⟩ : ∃ x, l[j + 3]? = some x := ⟨l[j + 3]'(by omega), by simp [show j + 3 < l.length by omega]⟩
    have HN : Hid (numN13 ((l.drop (j : Int).toNat).take 4) = (((b0 * 256 + b1) * 256 + b2) * 256 + b3)) := by
      show _ = _
      rw [Int.toNat_natCast, take4_of g0 g1 g2 g3]
      unfold numN13
      simp
    have r0 : w.cell? ⟨bo, off + j, none⟩ = some (.int .u8 (b0 : Int)) := hcell (j + 0) b0 g0
    have s0 : ((b0 : Nat) : Int) < 256 := by have := hx b0 (List.mem_of_getElem? g0); omega
    have r1 : w.cell? ⟨bo, off + (j + 1), none⟩ = some (.int .u8 (b1 : Int)) := hcell (j + 1) b1 g1
    have s1 : ((b1 : Nat) : Int) < 256 := by have := hx b1 (List.mem_of_getElem? g1); omega
    have r2 : w.cell? ⟨bo, off + (j + 2), none⟩ = some (.int .u8 (b2 : Int)) := hcell (j + 2) b2 g2
    have s2 : ((b2 : Nat) : Int) < 256 := by have := hx b2 (List.mem_of_getElem? g2); omega
    have r3 : w.cell? ⟨bo, off + (j + 3), none⟩ = some (.int .u8 (b3 : Int)) := hcell (j + 3) b3 g3
    have s3 : ((b3 : Nat) : Int) < 256 := by have := hx b3 (List.mem_of_getElem? g3); omega
    have l1 : (j : Int) + 1 < (l.length : Int) := by omega
    have l2 : (j : Int) + 2 < (l.length : Int) := by omega
    have l3 : (j : Int) + 3 < (l.length : Int) := by omega
    have lj : (j : Int) < (l.length : Int) := by omega
    have hdt : (decide (0 ≤ (j : Int)) && decide ((j : Int) ≤ (l.length : Int) - 4)) = true := by simp; omega
    have hle : (j : Int) ≤ (l.length : Int) - 4 := by omega
    have hst : (0 : Int) ≤ (j : Int) := by omega
    have HS : Hid (Below w.heap.size w w) := Below.refl _ _
    clear hv h hcell hx hc
    go_enter Try.func100, Try.ntmps100
    go_wp2_with (go_at_call 121; refine (stand_any _ l.length cc (j : Int) 4 _ (by omega) hl).mono ?_; rw [hdt]; rintro e w1 ⟨rfl, hw1⟩; replace hw1 := hw1.symm; subst hw1)
    go_quiet (fail)
    have HB : Hid (Below w.heap.size w (w.drewN nq)) := below_drewN (Below.refl _ _) nq
    have o1 : bits .or .u32 ((b0 : Int) * 16777216) ((b1 : Int) * 65536) = ((b0 * 16777216 + b1 * 65536 : Nat) : Int) := orN32 (b0 * 16777216) (b1 * 65536) 24 (by omega) (by omega) (by omega) _ _ (by omega) (by omega)
    have o2 : bits .or .u32 ((b0 * 16777216 + b1 * 65536 : Nat) : Int) ((b2 : Int) * 256) = ((b0 * 16777216 + b1 * 65536 + b2 * 256 : Nat) : Int) := orN32 (b0 * 16777216 + b1 * 65536) (b2 * 256) 16 (by omega) (by omega) (by omega) _ _ rfl (by omega)
    have o3 : bits .or .u32 ((b0 * 16777216 + b1 * 65536 + b2 * 256 : Nat) : Int) (b3 : Int) = ((((b0 * 256 + b1) * 256 + b2) * 256 + b3 : Nat) : Int) := by
      rw [orN32 (b0 * 16777216 + b1 * 65536 + b2 * 256) b3 8 (by omega) (by omega) (by omega) _ _ rfl rfl]
      omega
    rw [o1, o2, o3]
    clear o1 o2 o3
    go_wp2
    exact bodyPost_ret (v := .tuple #[.int .u32 (((((b0 * 256 + b1) * 256 + b2) * 256 + b3) : Nat) : Int), .int .i64 0]) (by simp [results, Try.results100, go_sem]) rfl ⟨by rw [HN.out], HB.out⟩
  · unfold gtN gtE
    rw [if_neg h, if_neg h]
    replace h : ¬ (0 ≤ n ∧ n ≤ (l.length : Int) - 4) := h
    have hd : (decide (0 ≤ n) && decide (n ≤ (l.length : Int) - 4)) = false := by
      rw [← Bool.decide_and]; exact decide_eq_false h
    go_enter Try.func100, Try.ntmps100
    go_wp2_with (go_at_call 121; refine (stand_any ao l.length cc n 4 _ (by omega) (by omega)).mono ?_; rintro e w1 ⟨rfl, hw1⟩; replace hw1 := hw1.symm; subst hw1)
    exact bodyPost_ret (v := .tuple #[.int .u32 0, .int .i64 30]) (by simp [results, Try.results100, go_sem]) rfl ⟨rfl, Below.refl _ _⟩
end Go.Proofs.Ytdpmhpmnkollaaa
namespace Go.Proofs.Ytdpmhpmnkollaaa
open Go.RowKit
set_option linter.unusedSimpArgs false
set_option linter.unusedVariables false

def bsA (l : List Nat) : ByteArray := ⟨(l.map UInt8.ofNat).toArray⟩
theorem conv13 {W : World} {v : Value} {l : List Nat} (h : RwX cB W v l) (hb : ∀ b ∈ l, b < 256) : (convert 27 9 v).run Try.prog W = .ok (.string (bsA l)) W := by
  obtain ⟨ao, c, rfl, -, h⟩ := h
  by_cases hz : l = []
  · subst hz
    cases ao with
    | none =>
      rw [run_convert_bytes_string W 27 9 5 none _ _ Try.underlying27 Try.underlying5 Try.underlying9]
      rfl
    | some a =>
      exact run_convert_bytes_back W 27 9 5 a c [] Try.underlying27 Try.underlying5 Try.underlying9 (fun j hj => absurd hj (Nat.not_lt_zero _))
  · rcases h with h | ⟨b, off, rfl, h⟩
    · exact absurd h hz
    · have := run_convert_bytes_back (P := Try.prog) W 27 9 5 ⟨b, off, none⟩ c (l.map UInt8.ofNat) Try.underlying27 Try.underlying5 Try.underlying9 (fun j hj => by
        have hj' : j < l.length := by simpa using hj
        rw [addA, h j l[j] (by simp [hj'])]
        have hlt := hb l[j] (List.getElem_mem hj')
        rw [List.getElem_map]
        unfold cB
        rw [UInt8.toNat_ofNat', Nat.mod_eq_of_lt hlt])
      rw [List.length_map] at this
      exact this
theorem num4 (n : Nat) (h : n < 4294967296) : numN13 (by4 n) = n := by
  have e : numN13 (by4 n) = ((((0 * 256 + n / 16777216) * 256 + n / 65536 % 256) * 256 + n / 256 % 256) * 256 + n % 256) := rfl
  rw [e]; omega
theorem by4_lt (n : Nat) (h : n < 4294967296) : ∀ b ∈ by4 n, b < 256 := by
  intro b hb
  unfold by4 at hb
  simp only [List.mem_cons, List.mem_nil_iff, or_false] at hb
  omega
end Go.Proofs.Ytdpmhpmnkollaaa
