/-
  Part 1 of the proof: 19 texts, one behind the other.
-/
import Derived.WalkKit
import Derived.WalkSpells
import Derived.WalkLawsBesides
import Derived.Test.YthbdmdafldombaaDoorRows
import Derived.Deep.RegionHeld3
import Derived.Laws.AppendOwnNone
import Derived.Deep.LoopGhost
import Derived.Defers
import Derived.Recover
import Derived.Deep.AppendLies
import Derived.Deep.QuietTactic
import Derived.BigQuiet
import Derived.Deep.CutBlock
import Derived.Deep.DeepCutAuto
namespace Go.Proofs.YthbdmdafldombaaDoor
open Go.RowKit
set_option linter.unusedSimpArgs false
set_option linter.unusedVariables false

def hv (x : BitVec 128) : BitVec 64 := x.extractLsb' 64 64
end Go.Proofs.YthbdmdafldombaaDoor
namespace Go.Proofs.YthbdmdafldombaaDoor
open Go.RowKit
set_option linter.unusedSimpArgs false
set_option linter.unusedVariables false

theorem bl1 (w : World) (o : Obj) : Below w.heap.size w (w.alloc o) := (Below.refl _ _).alloc (Nat.le_refl _) _
end Go.Proofs.YthbdmdafldombaaDoor
namespace Go.Proofs.YthbdmdafldombaaDoor
open Go.RowKit
set_option linter.unusedSimpArgs false
set_option linter.unusedVariables false

end Go.Proofs.YthbdmdafldombaaDoor
namespace Go.Proofs.YthbdmdafldombaaDoor
open Go.RowKit
set_option linter.unusedSimpArgs false
set_option linter.unusedVariables false

theorem bcell {W w1 : World} (hb : Below W.heap.size W w1) : (∀ b o, b < W.heap.size → w1.cell? ⟨b, o, none⟩ = W.cell? ⟨b, o, none⟩) ∧ (∀ b o, b < W.heap.size → w1.frozen? ⟨b, o, none⟩ = W.frozen? ⟨b, o, none⟩) :=
  ⟨fun b o h => hb.cell (p := ⟨b, o, none⟩) h, fun b o h => hb.frozen (p := ⟨b, o, none⟩) h⟩

end Go.Proofs.YthbdmdafldombaaDoor
namespace Go.Proofs.YthbdmdafldombaaDoor
open Go.RowKit
set_option linter.unusedSimpArgs false
set_option linter.unusedVariables false

theorem cell_in {W : World} {b o : Nat} {v : Value} (h : W.cell? ⟨b, o, none⟩ = some v) : b < W.heap.size := by
  apply Classical.byContradiction; intro hn
  have : W.heap[b]? = none := by simp; omega
  simp [World.cell?, this] at h
theorem keepc {W w' : World} (hb : Below W.heap.size W w') {b o : Nat} {v : Value} (h : W.cell? ⟨b, o, none⟩ = some v) : w'.cell? ⟨b, o, none⟩ = some v := by
  rw [(bcell hb).1 b o (cell_in h)]; exact h
theorem keepb {w W w' : World} (hb : Below W.heap.size W w') (h : Below w.heap.size w W) : Below w.heap.size w w' := h.trans (hb.mono h.size)

end Go.Proofs.YthbdmdafldombaaDoor
namespace Go.Proofs.YthbdmdafldombaaDoor
open Go.RowKit
set_option linter.unusedSimpArgs false
set_option linter.unusedVariables false

def Row (w : World) (size : Nat) (v : Value) (n : Nat) (xs : List Value) : Prop :=
  xs.length = n * size ∧ ∃ ao c, v = .slice ao n c ∧ n ≤ c ∧ ((ao = none ∧ c = 0 ∧ n = 0) ∨ ∃ b off, ao = some ⟨b, off, none⟩ ∧ ∀ j u, xs[j]? = some u → w.cell? ⟨b, off + j, none⟩ = some u)
theorem addA (g o j : Nat) : (⟨g, o, none⟩ : Addr).add j = ⟨g, o + j, none⟩ := by unfold Addr.add; split <;> simp_all
theorem own_row {w : World} {base e size n : Nat} {v : Value} {xs : List Value} (h : w.ownsRow base e size v n xs) : Row w size v n xs := by
  refine ⟨h.1, ?_⟩
  rcases h.2 with ⟨e0, e1⟩ | ⟨g, cap, cur, e0, hb, hg, hnc, hm, hs, ht⟩
  · subst e1
    exact ⟨none, 0, e0, Nat.le_refl _, .inl ⟨rfl, rfl, rfl⟩⟩
  · refine ⟨some ⟨g, 0, none⟩, cap, e0, hnc, .inr ⟨g, 0, rfl, ?_⟩⟩
    intro j u hj
    have f := h.cells (g := g) (by rw [e0]; rfl) j u hj
    rw [addA, Nat.zero_add] at f
    rw [Nat.zero_add]
    exact f
theorem own_form {w : World} {base e size n : Nat} {v : Value} {xs : List Value} (h : w.ownsRow base e size v n xs) : ∃ ao c, v = .slice ao n c := by
  rcases h.2 with ⟨e, h⟩ | ⟨g, cap, cur, e, _⟩
  · exact ⟨none, 0, by rw [h]; exact e⟩
  · exact ⟨_, _, e⟩
theorem Row.below {w w' : World} {size n : Nat} {v : Value} {xs : List Value} (h : Row w size v n xs) (hb : Below w.heap.size w w') : Row w' size v n xs := by
  obtain ⟨hl, ao, c, e, hc, h⟩ := h
  refine ⟨hl, ao, c, e, hc, ?_⟩
  rcases h with h | ⟨b, off, e, h⟩
  · exact .inl h
  · exact .inr ⟨b, off, e, fun j u hj => keepc hb (h j u hj)⟩
end Go.Proofs.YthbdmdafldombaaDoor
namespace Go.Proofs.YthbdmdafldombaaDoor
open Go.RowKit
set_option linter.unusedSimpArgs false
set_option linter.unusedVariables false

theorem spot9 {W : World} {a : Addr} {u : Value} (h : W.cell? a = some u) : a = ⟨a.block, a.off, none⟩ := by
  obtain ⟨b, o, s⟩ := a
  cases s with
  | none => rfl
  | some z =>
    unfold World.cell? at h
    split at h
    · simp at h
    · cases h
def RowA (w : World) (size : Nat) (v : Value) (n : Nat) (xs : List Value) : Prop :=
  xs.length = n * size ∧ ∃ ao c, v = .slice ao n c ∧ n ≤ c ∧ ((ao = none ∧ c = 0 ∧ n = 0) ∨ ∃ a : Addr, ao = some a ∧ ∀ j u, xs[j]? = some u → w.cell? (a.add j) = some u)
theorem RowA.below {w w' : World} {size n : Nat} {v : Value} {xs : List Value} (h : RowA w size v n xs) (hb : Below w.heap.size w w') : RowA w' size v n xs := by
  obtain ⟨hl, ao, c, e, hc, h⟩ := h
  refine ⟨hl, ao, c, e, hc, ?_⟩
  rcases h with h | ⟨a, e, h⟩
  · exact .inl h
  · refine .inr ⟨a, e, fun j u hj => ?_⟩
    have f := h j u hj
    have sp := spot9 f
    rw [sp]
    rw [sp] at f
    exact keepc hb f
theorem wpList_append_rowA {P : Program} {w : World} {ops : Array Oper} {rest : List Oper} {o : Oper} {a : Act} {Q : Exit → Act → World → Prop} (hgd : o.guard = none) (s x : Operand) (t : TypeId)
    (ho : o.op = .call { callee := .builtin .append, args := #[s, x], argTypes := #[t, t] })
    (base : Nat) (e : TypeId) (i : TypeInfo) (z : Value) (size bytes : Nat) (ht : P.underlying t = some (.slice e)) (hi : P.info? e = some i) (hz : i.zero = some z)
    (hsize : i.size = size) (hby : i.bytes = bytes) (hzs : z.cells.size = size) (hsz : 0 < size)
    (v : Value) (n : Nat) (xs : List Value) (hs : a.eval s = v) (hown : w.ownsRow base e size v n xs)
    (vx : Value) (m : Nat) (news : List Value) (hx : a.eval x = vx) (hsrc : RowA w size vx m news) (h1 : ∀ y ∈ news, y.oneCell' = true)
    (h63 : n + m ≤ maxLen) (hbytes : (n + m) * bytes ≤ 140737488355328) (hbase : base ≤ w.heap.size)
    (h : ∀ ao cap w', w'.ownsRow base e size (.slice ao (n + m) cap) (n + m) (xs ++ news) → w.grownBy w' v.ownBlock → wpList P ops Q rest (a.put o.dst (.slice ao (n + m) cap)) w') : wpList P ops Q (o :: rest) a w := by
  obtain ⟨hl, xo, c, rfl, hcc, hsrc⟩ := hsrc
  rcases hsrc with ⟨rfl, rfl, rfl⟩ | ⟨ad, rfl, hc⟩
  · have : news = [] := List.eq_nil_of_length_eq_zero (by omega)
    subst this
    refine wpList_append_own_none hgd s x t ho base e i size ht hi v n xs hs hown hx ?_
    obtain ⟨ao, cp, hv⟩ := own_form hown
    have := h ao cp w (by rw [List.append_nil, Nat.add_zero, ← hv]; exact hown) ⟨rfl, rfl, rfl, Nat.le_refl _, fun _ _ _ => rfl⟩
    rw [Nat.add_zero, ← hv] at this
    exact this
  · refine wpList_append_own w hgd s x t ho base e i z size bytes ht hi hz hsize hby hzs hsz v n xs hs hown ad m c news hx hl hc h1 h63 hbytes hbase ?_
    intro v' w' h2 h3 _
    obtain ⟨ao, cp, hv⟩ := own_form h2
    rw [hv]
    rw [hv] at h2
    exact h ao cp w' h2 h3
theorem stopHere9 {P : Program} {w : World} {ops : Array Oper} {rest : List Oper} {a : Act} {Q : Exit → Act → World → Prop} {o : Oper} (h : Hid (wpList P ops Q (o :: rest) a w)) : wpList P ops Q (o :: rest) a w := h.out
end Go.Proofs.YthbdmdafldombaaDoor
namespace Go.Proofs.YthbdmdafldombaaDoor
open Go.RowKit
set_option linter.unusedSimpArgs false
set_option linter.unusedVariables false

def cM : BitVec 32 := 0x82F63B78#32
def hb (x : BitVec 32) : BitVec 32 := (x >>> 1) ^^^ (if x.getLsbD 0 then cM else 0#32)
def hbN : Nat → BitVec 32 → BitVec 32
  | 0, x => x
  | n + 1, x => hbN n (hb x)
theorem x4 (a b c d : BitVec 32) : (a ^^^ b) ^^^ (c ^^^ d) = (a ^^^ c) ^^^ (b ^^^ d) := by
  rw [BitVec.xor_assoc, BitVec.xor_assoc, ← BitVec.xor_assoc b c d, BitVec.xor_comm b c, BitVec.xor_assoc c b d]
theorem hb_xor (x y : BitVec 32) : hb (x ^^^ y) = hb x ^^^ hb y := by
  unfold hb
  rw [BitVec.ushiftRight_xor_distrib, BitVec.getLsbD_xor, x4]
  congr 1
  cases x.getLsbD 0 <;> cases y.getLsbD 0 <;> simp
theorem hbN_xor (n : Nat) : ∀ x y, hbN n (x ^^^ y) = hbN n x ^^^ hbN n y := by
  induction n with
  | zero => intro x y; rfl
  | succ n ih => intro x y; simp only [hbN]; rw [hb_xor, ih]
theorem hbN_add (m n : Nat) : ∀ x, hbN (m + n) x = hbN n (hbN m x) := by
  induction m with
  | zero => intro x; simp [hbN]
  | succ m ih => intro x; rw [Nat.succ_add]; simp only [hbN]; rw [ih]
def cT : Nat → BitVec 32
  | 0 => 0x00000000#32 | 1 => 0x105ec76f#32 | 2 => 0x20bd8ede#32 | 3 => 0x30e349b1#32 | 4 => 0x417b1dbc#32 | 5 => 0x5125dad3#32 | 6 => 0x61c69362#32 | 7 => 0x7198540d#32
  | 8 => 0x82f63b78#32 | 9 => 0x92a8fc17#32 | 10 => 0xa24bb5a6#32 | 11 => 0xb21572c9#32 | 12 => 0xc38d26c4#32 | 13 => 0xd3d3e1ab#32 | 14 => 0xe330a81a#32 | 15 => 0xf36e6f75#32
  | _ => 0#32
theorem cT_eq : ∀ k : Fin 16, hbN 4 (BitVec.ofNat 32 k.val) = cT k.val := by decide +kernel
theorem hb_even (x : BitVec 32) (h : x.getLsbD 0 = false) : hb x = x >>> 1 := by unfold hb; rw [h]; simp
theorem hb_hi (x : BitVec 32) (h : ∀ i, i < 4 → x.getLsbD i = false) : hbN 4 x = x >>> 4 := by
  simp only [hbN]
  have e1 : hb x = x >>> 1 := hb_even x (h 0 (by omega))
  have e2 : hb (x >>> 1) = x >>> 2 := by
    rw [hb_even _ (by rw [BitVec.getLsbD_ushiftRight]; exact h 1 (by omega)), ← BitVec.shiftRight_add]
  have e3 : hb (x >>> 2) = x >>> 3 := by
    rw [hb_even _ (by rw [BitVec.getLsbD_ushiftRight]; exact h 2 (by omega)), ← BitVec.shiftRight_add]
  have e4 : hb (x >>> 3) = x >>> 4 := by
    rw [hb_even _ (by rw [BitVec.getLsbD_ushiftRight]; exact h 3 (by omega)), ← BitVec.shiftRight_add]
  rw [e1, e2, e3, e4]
theorem and15 (x : BitVec 32) : x &&& 15#32 = BitVec.ofNat 32 (x.toNat % 16) := by
  apply BitVec.eq_of_toNat_eq
  rw [BitVec.toNat_and, BitVec.toNat_ofNat, BitVec.toNat_ofNat]
  have h : x.toNat &&& 15 = x.toNat % 16 := Nat.and_two_pow_sub_one_eq_mod x.toNat 4
  have e : 15 % 2 ^ 32 = 15 := by decide
  rw [e, h]
  omega
theorem hb_four (x : BitVec 32) : hbN 4 x = (x >>> 4) ^^^ cT (x.toNat % 16) := by
  have hs : x = (x &&& ~~~15#32) ^^^ (x &&& 15#32) := by
    apply BitVec.eq_of_getLsbD_eq
    intro i hi
    simp only [BitVec.getLsbD_xor, BitVec.getLsbD_and, BitVec.getLsbD_not, hi, decide_true, Bool.true_and]
    cases x.getLsbD i <;> cases (15#32).getLsbD i <;> rfl
  have h1 : hbN 4 (x &&& ~~~15#32) = (x &&& ~~~15#32) >>> 4 := by
    apply hb_hi
    intro i hi
    rw [BitVec.getLsbD_and, BitVec.getLsbD_not]
    have : i = 0 ∨ i = 1 ∨ i = 2 ∨ i = 3 := by omega
    rcases this with rfl | rfl | rfl | rfl <;> simp
  have h2 : (x &&& ~~~15#32) >>> 4 = x >>> 4 := by
    apply BitVec.eq_of_getLsbD_eq
    intro i hi
    rw [BitVec.getLsbD_ushiftRight, BitVec.getLsbD_ushiftRight, BitVec.getLsbD_and, BitVec.getLsbD_not]
    by_cases c : 4 + i < 32
    · have h15 : (15#32).getLsbD (4 + i) = false := by
        rw [BitVec.getLsbD_ofNat]
        have : (15 : Nat).testBit (4 + i) = false := Nat.testBit_lt_two_pow (Nat.lt_of_lt_of_le (by decide : 15 < 2 ^ 4) (Nat.pow_le_pow_right (by decide) (by omega)))
        rw [this]; simp
      rw [h15]; simp [c]
    · rw [BitVec.getLsbD_of_ge x _ (by omega)]; simp
  have h3 : hbN 4 (x &&& 15#32) = cT (x.toNat % 16) := by
    rw [and15]; exact cT_eq ⟨x.toNat % 16, by omega⟩
  calc hbN 4 x = hbN 4 ((x &&& ~~~15#32) ^^^ (x &&& 15#32)) := by rw [← hs]
    _ = _ := by rw [hbN_xor, h1, h2, h3]

def stp (c : BitVec 32) (b : Nat) : BitVec 32 := hbN 8 (c ^^^ BitVec.ofNat 32 b)
def crF (c : BitVec 32) (l : List Nat) : BitVec 32 := l.foldl stp c
def crS (l : List Nat) : BitVec 32 := ~~~ crF (BitVec.allOnes 32) l
theorem crF_nil (c : BitVec 32) : crF c [] = c := rfl
theorem crF_cons (c : BitVec 32) (b : Nat) (l : List Nat) : crF c (b :: l) = crF (stp c b) l := rfl
theorem crF_app (c : BitVec 32) (l m : List Nat) : crF c (l ++ m) = crF (crF c l) m := by unfold crF; exact List.foldl_append
theorem not_xor (x : BitVec 32) : ~~~ x = BitVec.allOnes 32 ^^^ x := by
  apply BitVec.eq_of_getLsbD_eq
  intro i hi
  rw [BitVec.getLsbD_not, BitVec.getLsbD_xor, BitVec.getLsbD_allOnes]
  simp only [hi, decide_true, Bool.true_and, Bool.true_xor]
def tp (k : Nat) : BitVec 32 := BitVec.twoPow 32 k
def cOne : BitVec 32 := 0x80000000#32
end Go.Proofs.YthbdmdafldombaaDoor
namespace Go.Proofs.YthbdmdafldombaaDoor
open Go.RowKit
set_option linter.unusedSimpArgs false
set_option linter.unusedVariables false

theorem uI_ex (x : BitVec 32) : ∃ n : Int, n = (x.toNat : Int) := ⟨_, rfl⟩
noncomputable def uI (x : BitVec 32) : Int := Classical.choose (uI_ex x)
theorem uI_eq (x : BitVec 32) : uI x = (x.toNat : Int) := Classical.choose_spec (uI_ex x)
theorem uI_of (n : Nat) (h : n < 4294967296) : uI (BitVec.ofNat 32 n) = (n : Int) := by
  rw [uI_eq, BitVec.toNat_ofNat]
  have : (2 : Nat) ^ 32 = 4294967296 := by decide
  omega
theorem uI_zero : uI 0#32 = 0 := by rw [uI_eq]; rfl
theorem wrap32n (n : Nat) (h : n < 4294967296) : IntKind.u32.wrap (n : Int) = (n : Int) := by
  simp [IntKind.wrap, IntKind.bits, IntKind.signed]; omega
theorem b32 (a b : BitVec 32) : BitVec.ofInt 32 (uI a) = a := by rw [uI_eq]; simp
theorem and32 (a b : BitVec 32) : bits .and .u32 (uI a) (uI b) = uI (a &&& b) := by
  unfold bits
  simp only [IntKind.bits]
  rw [b32 a a, b32 b b, wrap32n _ (BitVec.isLt _), uI_eq]; rfl
theorem or32 (a b : BitVec 32) : bits .or .u32 (uI a) (uI b) = uI (a ||| b) := by
  unfold bits
  simp only [IntKind.bits]
  rw [b32 a a, b32 b b, wrap32n _ (BitVec.isLt _), uI_eq]; rfl
theorem xor32 (a b : BitVec 32) : bits .xor .u32 (uI a) (uI b) = uI (a ^^^ b) := by
  unfold bits
  simp only [IntKind.bits]
  rw [b32 a a, b32 b b, wrap32n _ (BitVec.isLt _), uI_eq]; rfl
theorem shr32 (a : BitVec 32) (n : Nat) : uI a / 2 ^ n = uI (a >>> n) := by
  rw [uI_eq, uI_eq, BitVec.toNat_ushiftRight, Nat.shiftRight_eq_div_pow]; simp
theorem lit32 (n : Nat) (h : n < 4294967296) : ((n : Nat) : Int) = uI (BitVec.ofNat 32 n) := (uI_of n h).symm
end Go.Proofs.YthbdmdafldombaaDoor
namespace Go.Proofs.YthbdmdafldombaaDoor
open Go.RowKit
set_option linter.unusedSimpArgs false
set_option linter.unusedVariables false

theorem hid13 {p : Prop} (h : p) : Hid p := h
def cB (b : Nat) : Value := .int .u8 (b : Int)
noncomputable def cU (x : BitVec 32) : Value := .int .u32 (uI x)
def cI (n : Int) : Value := .int .i64 n
def RwX {α : Type} (f : α → Value) (w : World) (v : Value) (l : List α) : Prop :=
  ∃ ao c, v = .slice ao l.length c ∧ l.length ≤ c ∧ (l = [] ∨ ∃ b off, ao = some ⟨b, off, none⟩ ∧ ∀ j x, l[j]? = some x → w.cell? ⟨b, off + j, none⟩ = some (f x))
section
variable {α : Type} {f : α → Value} {w w' : World} {v : Value} {l : List α}
theorem RwX.below (h : RwX f w v l) (hb : Below w.heap.size w w') : RwX f w' v l := by
  obtain ⟨ao, c, e, hc, h⟩ := h
  refine ⟨ao, c, e, hc, ?_⟩
  rcases h with h | ⟨b, off, e, h⟩
  · exact .inl h
  · exact .inr ⟨b, off, e, fun j x hj => keepc hb (h j x hj)⟩
theorem own_rwx {base e : Nat} (h : w.ownsRow base e 1 v l.length (l.map f)) : RwX f w v l := by
  obtain ⟨-, ao, c, e, hc, h⟩ := own_row h
  refine ⟨ao, c, e, hc, ?_⟩
  rcases h with ⟨-, -, h⟩ | ⟨b, off, e, h⟩
  · exact .inl (List.eq_nil_of_length_eq_zero h)
  · exact .inr ⟨b, off, e, fun j x hj => h j _ (by rw [List.getElem?_map, hj]; rfl)⟩
end
end Go.Proofs.YthbdmdafldombaaDoor
namespace Go.Proofs.YthbdmdafldombaaDoor
open Go.RowKit
set_option linter.unusedSimpArgs false
set_option linter.unusedVariables false

theorem Tryd.infoU13 : (Tryd.prog.info? 23).map (fun i => (i.zero, i.size, i.bytes)) = some (some (.int .u32 0), 1, 4) := by kernel_rfl
theorem info13 {P : Program} {t : TypeId} {z : Value} {s b : Nat} (h : (P.info? t).map (fun i => (i.zero, i.size, i.bytes)) = some (some z, s, b)) : ∃ i, P.info? t = some i ∧ i.zero = some z ∧ i.size = s ∧ i.bytes = b := by
  cases hi : P.info? t with
  | none => rw [hi] at h; cases h
  | some i =>
    rw [hi] at h
    simp only [Option.map_some, Option.some.injEq, Prod.mk.injEq] at h
    exact ⟨i, rfl, h.1, h.2.1, h.2.2⟩
theorem own_b13 {base e size n : Nat} {v : Value} {xs : List Value} {W w' : World} (hb : Below W.heap.size W w') (h : W.ownsRow base e size v n xs) : w'.ownsRow base e size v n xs := by
  refine h.kept (row := none) ⟨hb.os, hb.tape, hb.output, hb.size, fun k hk _ => hb.block k hk⟩ ?_
  cases v.ownBlock with
  | none => exact Or.inl rfl
  | some a => exact Or.inr (by simp)
theorem news13 {W : World} {N : Nat} {v : Value} (h : W.cell? ⟨N, 0, none⟩ = some v) : ∀ j u, [v][j]? = some u → W.cell? ((⟨N, 0, none⟩ : Addr).add j) = some u := by
  intro j u hj
  rw [addA, Nat.zero_add]
  match j, hj with
  | 0, hj => simp at hj; subst hj; exact h
theorem catch13 (p : Addr) (w : World) :
    CallsD Tryd.prog 53 #[.pointer (some p)] .returning w fun e u' w' => e = .returned (.tuple #[]) ∧ u' = .returning ∧ w' = w := by
  refine callsD_of_wpS Tryd.func53 rfl fun c₀ cs hu => ?_
  apply wpS_seq
  apply wpS_region
  simp [wpOpsS, go_sem, recoverD, hu, Tryd.ntmps53, Exit.thenS]
  refine wpS_cond (t := false) (by simp [Act.eval, Array.replicate]) ?_
  simp only [Bool.false_eq_true, if_false]
  refine wpS_of_wp (wp_skip ?_)
  cases c₀
  simp_all [bodyPostS, results, Tryd.results53]
theorem sameI_any (a b : Int) (w : World) :
    Calls Tryd.prog 45 #[.int .i64 a, .int .i64 b] w fun e w' => e = .returned (.bool (a == b)) ∧ Below w.heap.size w w' := by
  have hmf : ∀ (fn : Fn) (first cap : Array Value) (w : World), (Instr.makeFunc fn first cap).run Tryd.prog w = .ok (.func fn first cap) w := fun _ _ _ _ => rfl
  go_enter_defers Tryd.func45, Tryd.ntmps45
  go_wp2
  refine leaves_cons (f := 53) (args := #[.pointer (some ⟨w.heap.size, 0, none⟩)]) (by simp) (by simp [go_sem]) ?_
  refine (catch13 ⟨w.heap.size, 0, none⟩ _).mono ?_
  rintro e u' w'' ⟨rfl, rfl, rfl⟩
  have hb : Below w.heap.size w (w.alloc (.cells #[.bool (a == b)] 4)) := bl1 w _
  simp [Leaves, settle, results, Tryd.results45, go_sem]
  exact hb
theorem words13 (n : Nat) (h : n ≤ 9223372036854775800) (w : World) :
    Calls Tryd.prog 44 #[.int .i64 (n : Int)] w fun e w' => e = .returned (.int .i64 (((n + 31) / 32 : Nat) : Int)) ∧ w' = w := by
  have h1 : Hid ((n : Int) % 32 = ((n % 32 : Nat) : Int)) := by show (n : Int) % 32 = ((n % 32 : Nat) : Int); omega
  by_cases c : n % 32 = 0
  · have c1 : ((n : Int) % 32 != 0) = false := by simp; omega
    have HE : Hid ((n : Int) / 32 = (((n + 31) / 32 : Nat) : Int)) := by show (n : Int) / 32 = (((n + 31) / 32 : Nat) : Int); omega
    clear h1 c
    go_enter Tryd.func44, Tryd.ntmps44
    go_wp2
    go_ret
    exact ⟨congrArg Ending.returned (congrArg (Value.int .i64) HE.out), rfl⟩
  · have c1 : ((n : Int) % 32 != 0) = true := by simp; omega
    have HE : Hid ((n : Int) / 32 + 1 = (((n + 31) / 32 : Nat) : Int)) := by show (n : Int) / 32 + 1 = (((n + 31) / 32 : Nat) : Int); omega
    clear h1 c
    go_enter Tryd.func44, Tryd.ntmps44
    go_wp2
    go_ret
    exact ⟨congrArg Ending.returned (congrArg (Value.int .i64) HE.out), rfl⟩
theorem shrOne (k : Nat) (h : k < 32) : (2147483648 : Int) / 2 ^ k = uI (cOne >>> k) := by
  rw [← shr32]
  congr 1
  exact lit32 2147483648 (by decide)
set_option maxRecDepth 100000 in
theorem set_any (g n cc i : Nat) (x : BitVec 32) (w : World) (hi : i < n * 32) (hn : n ≤ 140737488355328) (hc : w.cell? ⟨g, i / 32, none⟩ = some (.int .u32 (uI x))) (hf : w.frozen? ⟨g, i / 32, none⟩ = false) :
    Calls Tryd.prog 46 #[.slice (some ⟨g, 0, none⟩) n cc, .int .i64 (i : Int)] w fun e w' => e = .returned (.tuple #[]) ∧ w' = (w.setCell ⟨g, i / 32, none⟩ (.int .u32 (uI (x ||| (cOne >>> (i % 32)))))).drew := by
  obtain ⟨q, hq⟩ : ∃ q, q = i / 32 := ⟨_, rfl⟩
  obtain ⟨r, hr⟩ : ∃ r, r = i % 32 := ⟨_, rfl⟩
  rw [← hq] at hc hf ⊢
  rw [← hr]
  have hq1 : (i : Int) / 32 = (q : Int) := by omega
  have hr1 : (i : Int) % 32 = (r : Int) := by omega
  have hqn : ((q : Nat) : Int) < (n : Int) := by omega
  have hr32 : r < 32 := by omega
  have hsh := shrOne r hr32
  have hor := or32 x (cOne >>> r)
  clear hq hr
  go_enter Tryd.func46, Tryd.ntmps46
  go_wp2
  go_region
  exact bodyPost_end (by simp [results, Tryd.results46]) rfl ⟨rfl, rfl⟩
end Go.Proofs.YthbdmdafldombaaDoor
namespace Go.Proofs.YthbdmdafldombaaDoor
open Go.RowKit
set_option linter.unusedSimpArgs false
set_option linter.unusedVariables false

def setP (U : List (BitVec 32)) (k : Nat) : List (BitVec 32) := U.set (k / 32) (U.getD (k / 32) 0#32 ||| (cOne >>> (k % 32)))
theorem setP_len (U : List (BitVec 32)) (k : Nat) : (setP U k).length = U.length := by unfold setP; simp
section
variable {α : Type} [DecidableEq α]
def flg (l : List α) (k : Nat) : Bool := decide (k = 0) || decide (l[k]? ≠ l[k - 1]?)
def fdU (l : List α) : Nat → List (BitVec 32)
  | 0 => List.replicate ((l.length + 31) / 32) 0#32
  | k + 1 => if flg l k then setP (fdU l k) k else fdU l k
def fdR (l : List α) : Nat → List α
  | 0 => []
  | k + 1 => if flg l k then fdR l k ++ l[k]?.toList else fdR l k
theorem fdU_len (l : List α) : ∀ k, (fdU l k).length = (l.length + 31) / 32
  | 0 => by simp [fdU]
  | k + 1 => by
    simp only [fdU]
    split
    · rw [setP_len, fdU_len l k]
    · exact fdU_len l k
theorem fdR_len (l : List α) : ∀ k, (fdR l k).length ≤ k
  | 0 => by simp [fdR]
  | k + 1 => by
    have := fdR_len l k
    simp only [fdR]
    split
    · rw [List.length_append]
      cases l[k]? <;> simp <;> omega
    · omega
theorem fd_yes (l : List α) (k : Nat) (x : α) (hx : l[k]? = some x) (h : flg l k = true) : fdU l (k + 1) = setP (fdU l k) k ∧ fdR l (k + 1) = fdR l k ++ [x] := by
  constructor
  · simp only [fdU, h, if_true]
  · simp only [fdR, h, if_true, hx, Option.toList_some]
theorem fd_no (l : List α) (k : Nat) (h : flg l k = false) : fdU l (k + 1) = fdU l k ∧ fdR l (k + 1) = fdR l k := by
  constructor
  · simp only [fdU, h, Bool.false_eq_true, if_false]
  · simp only [fdR, h, Bool.false_eq_true, if_false]
theorem flg_zero (l : List α) : flg l 0 = true := by simp [flg]
theorem flg_succ (l : List α) (j : Nat) (x y : α) (hx : l[j + 1]? = some x) (hy : l[j]? = some y) : flg l (j + 1) = decide (x ≠ y) := by
  unfold flg
  rw [Nat.add_sub_cancel, hx, hy]
  simp
end
end Go.Proofs.YthbdmdafldombaaDoor
namespace Go.Proofs.YthbdmdafldombaaDoor
open Go.RowKit
set_option linter.unusedSimpArgs false
set_option linter.unusedVariables false

theorem Tryd.infoI13 : (Tryd.prog.info? 3).map (fun i => (i.zero, i.size, i.bytes)) = some (some (.int .i64 0), 1, 8) := by kernel_rfl
structure FoI (w W : World) (nw : Nat) (vf : Value) (U : List (BitVec 32)) (R : List Int) : Prop where
  b : Below w.heap.size w W
  m : W.ownsRow w.heap.size 23 1 (.slice (some ⟨w.heap.size, 0, none⟩) nw nw) nw (U.map cU)
  r : W.ownsRow (w.heap.size + 1) 3 1 vf R.length (R.map cI)
  s : w.heap.size + 1 ≤ W.heap.size
section
variable {w W W' : World} {nw : Nat} {vf : Value} {U : List (BitVec 32)} {R : List Int}
theorem FoI.below (h : FoI w W nw vf U R) (hb : Below W.heap.size W W') : FoI w W' nw vf U R :=
  ⟨keepb hb h.b, own_b13 hb h.m, own_b13 hb h.r, Nat.le_trans h.s hb.size⟩
theorem FoI.ul (h : FoI w W nw vf U R) : U.length = nw := by have := h.m.1; simpa using this
theorem FoI.cell (h : FoI w W nw vf U R) (k : Nat) (hk : k / 32 < nw) : W.cell? ⟨w.heap.size, k / 32, none⟩ = some (.int .u32 (uI (U.getD (k / 32) 0#32))) ∧ W.frozen? ⟨w.heap.size, k / 32, none⟩ = false := by
  have hl := h.ul
  refine ⟨?_, h.m.frozenAt _⟩
  rw [h.m.cellAt (k / 32) (by omega), List.getElem?_map, List.getD_eq_getElem?_getD, List.getElem?_eq_getElem (by omega)]
  rfl
theorem FoI.set (h : FoI w W nw vf U R) (k : Nat) (hk : k / 32 < nw) : FoI w (W.setCell ⟨w.heap.size, k / 32, none⟩ (.int .u32 (uI (U.getD (k / 32) 0#32 ||| (cOne >>> (k % 32)))))).drew nw vf (setP U k) R := by
  have hs := (h.m.stored (k / 32) (.int .u32 (uI (U.getD (k / 32) 0#32 ||| (cOne >>> (k % 32)))))).1
  have e : (setP U k).map cU = (U.map cU).set (k / 32) (.int .u32 (uI (U.getD (k / 32) 0#32 ||| (cOne >>> (k % 32))))) := by
    unfold setP
    rw [List.map_set]; rfl
  refine ⟨(h.b.setCell (Nat.le_refl _) _).drew, ?_, ?_, ?_⟩
  · rw [e]; exact own_b13 (below_drewN (Below.refl _ _) 1) hs
  · exact own_b13 (below_drewN (Below.refl _ _) 1) (ownsRow_setCell_below h.r (Nat.lt_succ_self _) _)
  · have : (W.setCell ⟨w.heap.size, k / 32, none⟩ (.int .u32 (uI (U.getD (k / 32) 0#32 ||| (cOne >>> (k % 32)))))).drew.heap.size = W.heap.size := by simp [World.setCell, World.drew]
    rw [this]; exact h.s
theorem FoI.grown (h : FoI w W nw vf U R) {v' : Value} {x : Int} (ho : W'.ownsRow (w.heap.size + 1) 3 1 v' (R.length + 1) (R.map cI ++ [cI x])) (hg : W.grownBy W' vf.ownBlock) : FoI w W' nw v' U (R ++ [x]) := by
  refine ⟨h.b.grown hg (by have := h.s; omega) (fun k e => by have := (h.r.lt k e).1; omega), h.m.kept hg ?_, ?_, Nat.le_trans h.s hg.size⟩
  · cases e : vf.ownBlock with
    | none => exact .inr (by simp [Value.ownBlock])
    | some k => exact .inr (by have := (h.r.lt k e).1; simp only [Value.ownBlock, ne_eq, Option.some.injEq]; omega)
  · rw [List.length_append, List.map_append]
    exact ho
end
set_option maxRecDepth 100000 in
set_option maxHeartbeats 16000000 in
theorem foldI_any (v : Value) (l : List Int) (w : World) (hv : RwX cI w v l) (hl : l.length * 8 ≤ 140737488355328) :
    Calls Tryd.prog 29 #[v] w fun e w' => ∃ vf, e = .returned (.tuple #[.slice (some ⟨w.heap.size, 0, none⟩) ((l.length + 31) / 32) ((l.length + 31) / 32), vf]) ∧ FoI w w' ((l.length + 31) / 32) vf (fdU l l.length) (fdR l l.length) := by
  obtain ⟨ao, cc, rfl, hc, hv⟩ := hv
  obtain ⟨i0, hi, hz0, hz1, hz2⟩ := info13 Tryd.infoU13
  obtain ⟨j0, ji, jz0, jz1, jz2⟩ := info13 Tryd.infoI13
  obtain ⟨nw, hnw⟩ : ∃ nw, nw = (l.length + 31) / 32 := ⟨_, rfl⟩
  have hwd := words13 l.length (by omega)
  rw [← hnw] at hwd ⊢
  have HV := hid13 hv
  have HL := hid13 hl
  have HW := hid13 hnw
  have hby : i0.bytes * nw ≤ 281474976710656 := by rw [hz2]; omega
  have hmx : nw ≤ maxLen := by unfold maxLen; omega
  clear hv hc hnw hl
  go_enter Tryd.func29, Tryd.ntmps29
  go_wp2_with (first | (go_at_call 44; refine (hwd _).mono ?_; rintro e w1 ⟨rfl, hw1⟩; replace hw1 := hw1.symm; subst hw1) | (at_make; apply stopHere9))
  refine (show wpList _ _ _ _ _ _ from ?_)
  refine wpList_make_full _ rfl _ _ 47 rfl w.heap.size 23 i0 (.int .u32 0) 1 Tryd.underlying47 hi hz0 hz1 .i64 .i64 _ _ nw rfl rfl rfl rfl hby hmx (Nat.le_refl _) ?_
  intro w2 hown2 hgrow
  have HS0 : Hid (FoI w w2 nw (.slice none 0 0) (fdU l 0) (fdR l 0)) := by
    refine ⟨(Below.refl _ _).grown hgrow (Nat.le_refl _) (fun z hz => by cases hz), ?_, World.ownsRow_nil _ _ _ _, ?_⟩
    · have e : (fdU l 0).map cU = (madeCells (Value.int .u32 0).cells (nw * 1)).toList := by
        show _ = (madeCells #[Value.int .u32 0] (nw * 1)).toList
        rw [toList_madeCells_one, Nat.mul_one]
        simp only [fdU]
        rw [List.map_replicate, ← HW.out]
        unfold cU
        rw [uI_zero]
      rw [e]; exact hown2
    · have := (hown2.lt w.heap.size rfl).2; omega
  clear hown2 hgrow hby hwd
  go_wp2_with fail
  go_loopg [5, 6, 7, 14] l.length (fun g vf i6 x7 i wr => ∃ (k : Nat) (U : List (BitVec 32)) (R : List Int), k + g = l.length ∧ i = .int .i64 (k : Int) ∧ Hid (FoI w wr nw vf U R) ∧ Hid (U = fdU l k ∧ R = fdR l k))
  case atStart => exact ⟨0, _, _, by omega, rfl, HS0, rfl, rfl⟩
  case round =>
    clear HS0
    obtain ⟨k, U, R, hk, rfl, HS, HE⟩ := hrel
    by_cases hlt : k < l.length
    · have hli : (k : Int) < (l.length : Int) := by omega
      obtain ⟨bo, off, rfl, hcell⟩ : ∃ bo off, ao = some ⟨bo, off, none⟩ ∧ ∀ j x, l[j]? = some x → w.cell? ⟨bo, off + j, none⟩ = some (cI x) := by
        rcases HV.out with h | h
        · rw [h] at hlt; simp at hlt
        · exact h
      have HR : Hid (R.length < l.length ∧ l.length * 8 ≤ 140737488355328) := by
        have := fdR_len l k
        rw [← HE.out.2] at this
        exact ⟨by omega, HL.out⟩
      have hq : k / 32 < nw := by have := HW.out; omega
      have hq2 : k < nw * 32 := by omega
      have hn2 : nw ≤ 140737488355328 := by have := HW.out; have := HL.out; omega
      obtain ⟨x, hx⟩ : ∃ x, l[k]? = some x := ⟨l[k], by simp [hlt]⟩
      have hrd : wr.cell? ⟨bo, off + k, none⟩ = some (.int .i64 x) := keepc HS.out.b (hcell k x hx)
      have mk : IntKind.i64.wrap ((k : Int) + 1) = (k : Int) + 1 := by have := HL.out; rw [IntKind.wrap_i64]; omega
      have HX := hid13 hx
      have HK : Hid (k + gk = l.length ∧ k < l.length) := ⟨hk, hlt⟩
      have HC := hid13 hcell
      clear hx hcell
      by_cases k0 : k = 0
      · subst k0
        rw [Nat.add_zero] at hrd
        have hfy := hid13 (fd_yes l 0 x HX.out (flg_zero l))
        have HS1 := HS
        clear HS
        go_wp2_with (first | (go_at_call 46; refine (set_any w.heap.size nw nw (0) _ _ hq2 hn2 (HS1.out.cell (0) hq).1 (HS1.out.cell (0) hq).2).mono ?_; rintro e w3 ⟨rfl, hw3⟩; have HH := hid13 (HS1.out.set (0) hq); rw [← hw3] at HH; clear hw3 HS1) | (at_builtin; apply stopHere9))
        refine (show wpList _ _ _ _ _ _ from ?_)
        have h63 : R.length + 1 ≤ maxLen := by have := HR.out; unfold maxLen; omega
        have h47 : (R.length + 1) * 8 ≤ 140737488355328 := by have := HR.out; omega
        have q9 := bl1 w3 (.cells #[.int .i64 x] 3)
        have HO9 := hid13 (own_b13 q9 HH.out.r)
        have HB9 := hid13 (keepb q9 HH.out.b)
        have HS9 : Hid (w.heap.size + 1 ≤ (w3.alloc (.cells #[.int .i64 x] 3)).heap.size) := hid13 (Nat.le_trans HH.out.s q9.size)
        refine wpList_append_lies _ rfl _ _ 55 rfl (w.heap.size + 1) 3 j0 (.int .i64 0) 1 8 Tryd.underlying55 ji jz0 jz1 jz2 rfl (by decide) _ _ _ rfl HO9.out ⟨w3.heap.size, 0, none⟩ 1 1 [.int .i64 x] rfl rfl (news13 (by simp [go_sem])) (by intro u hu; simp at hu; subst hu; rfl) (by decide) h63 h47 HS9.out _ rfl ?_
        intro g4 cap4 w4 hown4 hgrow hat hlt4
        have HZ := hid13 ((HH.out.below q9).grown hown4 hgrow)
        clear hgrow hat hown4 hlt4 h63 h47 q9 HO9 HB9 HS9 HH
        go_wp2
        go_roundg (gk - 1)
        case measure => have := HK.out; omega
        case rel => exact ⟨1, _, _, by have := HK.out; omega, rfl, HZ, by rw [hfy.out.1, HE.out.1], by rw [hfy.out.2, HE.out.2]⟩
      · obtain ⟨j, rfl⟩ : ∃ j, k = j + 1 := ⟨k - 1, by omega⟩
        obtain ⟨y, hy⟩ : ∃ y, l[j]? = some y := ⟨l[j], by simp [show j < l.length by omega]⟩
        have hrd1 : wr.cell? ⟨bo, off + j, none⟩ = some (.int .i64 y) := keepc HS.out.b (HC.out j y hy)
        have hfs := hid13 (flg_succ l j x y HX.out hy)
        clear hy k0
        have wm : IntKind.i64.wrap (((j : Int) + 1) - 1) = (j : Int) := by have := HL.out; rw [IntKind.wrap_i64]; omega
        have hj0 : ((j : Int) + 1 == 0) = false := by simp; omega
        by_cases hxy : x = y
        · have hbq : (x == y) = true := by simp [hxy]
          have hfn := hid13 (fd_no l (j + 1) (by rw [hfs.out]; simp [hxy]))
          clear hfs hxy
          go_wp2_with (go_at_call 45; refine (sameI_any x y _).mono ?_; rintro e w1 ⟨rfl, hb1⟩; have HS1 := hid13 (HS.out.below hb1); clear hb1 HS hrd hrd1)
          go_roundg (gk - 1)
          case measure => have := HK.out; omega
          case rel => exact ⟨j + 1 + 1, _, _, by have := HK.out; omega, rfl, HS1, by rw [hfn.out.1, HE.out.1], by rw [hfn.out.2, HE.out.2]⟩
        · have hbq : (x == y) = false := by simp [hxy]
          have hfy := hid13 (fd_yes l (j + 1) x HX.out (by rw [hfs.out]; simp [hxy]))
          clear hfs hxy
          go_wp2_with (first | (go_at_call 45; refine (sameI_any x y _).mono ?_; rintro e w1 ⟨rfl, hb1⟩; have HS1 := hid13 (HS.out.below hb1); clear hb1 HS hrd hrd1) | (go_at_call 46; refine (set_any w.heap.size nw nw (j + 1) _ _ hq2 hn2 (HS1.out.cell (j + 1) hq).1 (HS1.out.cell (j + 1) hq).2).mono ?_; rintro e w3 ⟨rfl, hw3⟩; have HH := hid13 (HS1.out.set (j + 1) hq); rw [← hw3] at HH; clear hw3 HS1) | (at_builtin; apply stopHere9))
          refine (show wpList _ _ _ _ _ _ from ?_)
          have h63 : R.length + 1 ≤ maxLen := by have := HR.out; unfold maxLen; omega
          have h47 : (R.length + 1) * 8 ≤ 140737488355328 := by have := HR.out; omega
          have q9 := bl1 w3 (.cells #[.int .i64 x] 3)
          have HO9 := hid13 (own_b13 q9 HH.out.r)
          have HB9 := hid13 (keepb q9 HH.out.b)
          have HS9 : Hid (w.heap.size + 1 ≤ (w3.alloc (.cells #[.int .i64 x] 3)).heap.size) := hid13 (Nat.le_trans HH.out.s q9.size)
          refine wpList_append_lies _ rfl _ _ 55 rfl (w.heap.size + 1) 3 j0 (.int .i64 0) 1 8 Tryd.underlying55 ji jz0 jz1 jz2 rfl (by decide) _ _ _ rfl HO9.out ⟨w3.heap.size, 0, none⟩ 1 1 [.int .i64 x] rfl rfl (news13 (by simp [go_sem])) (by intro u hu; simp at hu; subst hu; rfl) (by decide) h63 h47 HS9.out _ rfl ?_
          intro g4 cap4 w4 hown4 hgrow hat hlt4
          have HZ := hid13 ((HH.out.below q9).grown hown4 hgrow)
          clear hgrow hat hown4 hlt4 h63 h47 q9 HO9 HB9 HS9 HH
          go_wp2
          go_roundg (gk - 1)
          case measure => have := HK.out; omega
          case rel => exact ⟨j + 1 + 1, _, _, by have := HK.out; omega, rfl, HZ, by rw [hfy.out.1, HE.out.1], by rw [hfy.out.2, HE.out.2]⟩
    · have hli : ¬ (k : Int) < (l.length : Int) := by omega
      have e : k = l.length := by omega
      subst e
      have HF : Hid (FoI w wr nw u5 (fdU l l.length) (fdR l l.length)) := by have := HS.out; rw [HE.out.1, HE.out.2] at this; exact this
      go_wp2_with fail
      exact bodyPost_ret (v := .tuple #[.slice (some ⟨w.heap.size, 0, none⟩) nw nw, u5]) (by simp [results, Tryd.results29, go_sem]) rfl ⟨_, rfl, HF.out⟩
end Go.Proofs.YthbdmdafldombaaDoor
namespace Go.Proofs.YthbdmdafldombaaDoor
open Go.RowKit
set_option linter.unusedSimpArgs false
set_option linter.unusedVariables false

end Go.Proofs.YthbdmdafldombaaDoor
namespace Go.Proofs.YthbdmdafldombaaDoor
open Go.RowKit
set_option linter.unusedSimpArgs false
set_option linter.unusedVariables false

end Go.Proofs.YthbdmdafldombaaDoor
namespace Go.Proofs.YthbdmdafldombaaDoor
open Go.RowKit
set_option linter.unusedSimpArgs false
set_option linter.unusedVariables false

end Go.Proofs.YthbdmdafldombaaDoor
namespace Go.Proofs.YthbdmdafldombaaDoor
open Go.RowKit
set_option linter.unusedSimpArgs false
set_option linter.unusedVariables false

section
variable {P : Program}

end
end Go.Proofs.YthbdmdafldombaaDoor
namespace Go.Proofs.YthbdmdafldombaaDoor
open Go.RowKit
set_option linter.unusedSimpArgs false
set_option linter.unusedVariables false

end Go.Proofs.YthbdmdafldombaaDoor
namespace Go.Proofs.YthbdmdafldombaaDoor
open Go.RowKit
set_option linter.unusedSimpArgs false
set_option linter.unusedVariables false

def ArX (W : World) (S : Nat) (f : Nat → BitVec 32) (k : Nat) : Prop := ∃ cs : Array Value, W.heap[S]? = some (.cells cs 72 (0, 0)) ∧ cs.size = 32 ∧ ∀ j, j < k → cs[j]? = some (.int .u32 (uI (f j)))
section
variable {W W' : World} {S k : Nat} {f : Nat → BitVec 32}
theorem ArX.heap (h : ArX W S f k) (e : W'.heap[S]? = W.heap[S]?) : ArX W' S f k := by
  obtain ⟨cs, h1, h2⟩ := h
  exact ⟨cs, e.trans h1, h2⟩
theorem ArX.lt (h : ArX W S f k) : S < W.heap.size := by
  obtain ⟨cs, h1, -⟩ := h
  exact lt_of_block h1
theorem ArX.below (h : ArX W S f k) (hb : Below W.heap.size W W') : ArX W' S f k := h.heap (hb.block S h.lt)
theorem ArX.cell (h : ArX W S f k) (j : Nat) (hj : j < 32) : (∃ v, W.cell? ⟨S, j, none⟩ = some v) ∧ W.frozen? ⟨S, j, none⟩ = false := by
  obtain ⟨cs, h1, h2, -⟩ := h
  refine ⟨?_, frozen_of_row W S j cs _ h1⟩
  rw [cell_of_row W S j cs _ _ h1]
  exact ⟨cs[j]'(by omega), by simp [show j < cs.size by omega]⟩
theorem ArX.set (h : ArX W S f k) (hk : k < 32) : ArX (W.setCell ⟨S, k, none⟩ (.int .u32 (uI (f k)))) S f (k + 1) := by
  obtain ⟨cs, h1, h2, h3⟩ := h
  refine ⟨cs.setIfInBounds k (.int .u32 (uI (f k))), heap_setCell_same W S k cs _ _ h1, by simpa using h2, fun j hj => ?_⟩
  rw [Array.getElem?_setIfInBounds]
  by_cases c : k = j
  · subst c
    simp [h2, hk]
  · rw [if_neg c]; exact h3 j (by omega)
end
theorem shlT (j : Nat) (h : j < 32) : (2 : Int) ^ j % 4294967296 = uI (tp j) := by
  have e : uI (tp j) = ((2 ^ j : Nat) : Int) := by
    rw [uI_eq]
    unfold tp
    rw [BitVec.toNat_twoPow]
    have : 2 ^ j < 2 ^ 32 := Nat.pow_lt_pow_right (by decide) h
    rw [Nat.mod_eq_of_lt this]
  have h2 : (2 : Nat) ^ j < 4294967296 := Nat.pow_lt_pow_right (a := 2) (n := 32) (by decide) h
  have e3 : (2 : Nat) ^ 32 = 4294967296 := by decide
  rw [e]
  have e4 : (2 : Int) ^ j = ((2 ^ j : Nat) : Int) := by simp
  rw [e4]
  generalize 2 ^ j = m at *
  omega
end Go.Proofs.YthbdmdafldombaaDoor
