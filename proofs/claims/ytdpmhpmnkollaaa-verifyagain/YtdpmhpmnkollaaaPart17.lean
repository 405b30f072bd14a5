/-
  Part 17 of the proof: 15 texts, one behind the other.
-/
import Derived.Test.YtdpmhpmnkollaaaPart16
import Derived.Test.YtdpmhpmnkollaaaPart1
import Derived.Test.YtdpmhpmnkollaaaPart4
import Derived.Test.YtdpmhpmnkollaaaPart5
import Derived.Test.YtdpmhpmnkollaaaPart11
namespace Go.Proofs.Ytdpmhpmnkollaaa
open Go.RowKit
set_option linter.unusedSimpArgs false
set_option linter.unusedVariables false

def AtP (w : World) (B : Nat) (x : BitVec 128) (n : Int) : Prop := w.cell? ⟨B, 0, none⟩ = some (.int .u64 (hI x)) ∧ w.cell? ⟨B, 1, none⟩ = some (.int .u64 (lI x)) ∧ w.cell? ⟨B, 2, none⟩ = some (.int .i64 n) ∧ w.frozen? ⟨B, 0, none⟩ = false ∧ w.frozen? ⟨B, 1, none⟩ = false ∧ w.frozen? ⟨B, 2, none⟩ = false
theorem AtP.below {w w' : World} {B : Nat} {x : BitVec 128} {n : Int} (h : AtP w B x n) (hb : Below w.heap.size w w') : AtP w' B x n := by
  obtain ⟨h0, h1, h2, h3, h4, h5⟩ := h
  exact ⟨keepc hb h0, keepc hb h1, keepc hb h2, keepf hb h0 h3, keepf hb h1 h4, keepf hb h2 h5⟩
theorem eqw (c x : BitVec 128) : ((hI c == hI x) = true ∧ (lI c == lI x) = true ∧ (c == x) = true) ∨ ((hI c == hI x) = false ∧ (c == x) = false) ∨ ((hI c == hI x) = true ∧ (lI c == lI x) = false ∧ (c == x) = false) := by
  rw [← beq_ints c x]
  cases hI c == hI x <;> cases lI c == lI x <;> simp

end Go.Proofs.Ytdpmhpmnkollaaa
namespace Go.Proofs.Ytdpmhpmnkollaaa
open Go.RowKit
set_option linter.unusedSimpArgs false
set_option linter.unusedVariables false

theorem eqW_run (x y : BitVec 128) (w : World) :
    (Op.equalIn 10000 48 (.agg #[.int .u64 (hI x), .int .u64 (lI x)]) (.agg #[.int .u64 (hI y), .int .u64 (lI y)])).run Try.prog w = .ok (x == y) w := by
  rcases eqw x y with ⟨q1, q2, q3⟩ | ⟨q1, q3⟩ | ⟨q1, q2, q3⟩
  all_goals
    rw [q3]
    go_simp
    try simp [*]
end Go.Proofs.Ytdpmhpmnkollaaa
namespace Go.Proofs.Ytdpmhpmnkollaaa
open Go.RowKit
set_option linter.unusedSimpArgs false
set_option linter.unusedVariables false

structure Rn where
  f : BitVec 128
  k : Bool
  n : Int
structure Nde where
  b : Int
  r : List Rn
def RnAt (w : World) (b o : Nat) (r : Rn) : Prop := w.cell? ⟨b, o, none⟩ = some (.int .u64 (hI r.f)) ∧ w.cell? ⟨b, o + 1, none⟩ = some (.int .u64 (lI r.f)) ∧ w.cell? ⟨b, o + 2, none⟩ = some (.bool r.k) ∧ w.cell? ⟨b, o + 3, none⟩ = some (.int .i64 r.n)
theorem RnAt.below {w w' : World} {b o : Nat} {r : Rn} (h : RnAt w b o r) (hb : Below w.heap.size w w') : RnAt w' b o r := ⟨keepc hb h.1, keepc hb h.2.1, keepc hb h.2.2.1, keepc hb h.2.2.2⟩
theorem rnat_new (w : World) (r : Rn) (T : TypeId) : RnAt (w.alloc (.cells #[.int .u64 (hI r.f), .int .u64 (lI r.f), .bool r.k, .int .i64 r.n] T)) w.heap.size 0 r := by
  refine ⟨?_, ?_, ?_, ?_⟩ <;> simp [go_sem]
def RwN (w : World) (v : Value) (l : List Rn) : Prop := ∃ ao c, v = .slice ao l.length c ∧ l.length ≤ c ∧ (l = [] ∨ ∃ b off, ao = some ⟨b, off, none⟩ ∧ ∀ j r, l[j]? = some r → RnAt w b (off + j * 4) r)
theorem RwN.below {w w' : World} {v : Value} {l : List Rn} (h : RwN w v l) (hb : Below w.heap.size w w') : RwN w' v l := by
  obtain ⟨ao, c, e, hc, h⟩ := h
  refine ⟨ao, c, e, hc, h.imp id ?_⟩
  rintro ⟨b, off, e, h⟩
  exact ⟨b, off, e, fun j r hj => (h j r hj).below hb⟩
def RwD (w : World) (v : Value) (L : List Nde) : Prop := ∃ ao c, v = .slice ao L.length c ∧ L.length ≤ c ∧ (L = [] ∨ ∃ b off, ao = some ⟨b, off, none⟩ ∧ ∀ j d, L[j]? = some d → ∃ vr, w.cell? ⟨b, off + j * 2, none⟩ = some (.int .i64 d.b) ∧ w.cell? ⟨b, off + j * 2 + 1, none⟩ = some vr ∧ RwN w vr d.r)
theorem RwD.below {w w' : World} {v : Value} {L : List Nde} (h : RwD w v L) (hb : Below w.heap.size w w') : RwD w' v L := by
  obtain ⟨ao, c, e, hc, h⟩ := h
  refine ⟨ao, c, e, hc, h.imp id ?_⟩
  rintro ⟨b, off, e, h⟩
  refine ⟨b, off, e, fun j d hj => ?_⟩
  obtain ⟨vr, h1, h2, h3⟩ := h j d hj
  exact ⟨vr, keepc hb h1, keepc hb h2, h3.below hb⟩
def bitsB (n : Int) : Bool := decide (0 ≤ n) && decide (n ≤ 128)
def runE (r : Rn) (i N : Int) : Int := if r.k then (if r.n ≤ i ∨ N ≤ r.n then 26 else 0) else (if r.n < 0 ∨ 65535 < r.n then 15 else 0)
def smR (r s : Rn) : Bool := (r.k == s.k) && (r.n == s.n)
end Go.Proofs.Ytdpmhpmnkollaaa
namespace Go.Proofs.Ytdpmhpmnkollaaa
open Go.RowKit
set_option linter.unusedSimpArgs false
set_option linter.unusedVariables false
attribute [local go_sem] Oper.semAt_some

def adjG : List Rn → Bool
  | a :: b :: t => (decide (cmpZ a.f b.f < 0) && !smR a b) && adjG (b :: t)
  | _ => true
def ioB (d : Nde) : Bool := match d.r.head?, d.r.getLast? with
  | some a, some z => (a.f == 0#128) && (adjG d.r && (z.f >>> d.b.toNat == 0#128))
  | _, _ => false
theorem io_nil (b : Int) : ioB ⟨b, []⟩ = false := rfl
theorem io_one (b : Int) (l : List Rn) (h : l ≠ []) : ioB ⟨b, l⟩ = ((l[0]'(List.length_pos_iff.mpr h)).f == 0#128 && (adjG l && ((l[l.length - 1]'(by have := List.length_pos_iff.mpr h; omega)).f >>> b.toNat == 0#128))) := by
  unfold ioB
  dsimp only
  rw [List.head?_eq_getElem?, List.getLast?_eq_getElem?, List.getElem?_eq_getElem (List.length_pos_iff.mpr h), List.getElem?_eq_getElem (by have := List.length_pos_iff.mpr h; omega)]
def AtD (w : World) (B : Nat) (b : Int) (v : Value) : Prop := w.cell? ⟨B, 0, none⟩ = some (.int .i64 b) ∧ w.cell? ⟨B, 1, none⟩ = some v
theorem AtD.below {w w' : World} {B : Nat} {b : Int} {v : Value} (h : AtD w B b v) (hb : Below w.heap.size w w') : AtD w' B b v := ⟨keepc hb h.1, keepc hb h.2⟩
theorem atd_new (w : World) (b : Int) (v : Value) (T : TypeId) : AtD (w.alloc (.cells #[.int .i64 b, v] T)) w.heap.size b v := by
  refine ⟨?_, ?_⟩ <;> simp [go_sem]
theorem eqWz (x : BitVec 128) (w : World) : (Op.equalIn 10000 48 (.agg #[.int .u64 (hI x), .int .u64 (lI x)]) (.agg #[.int .u64 0, .int .u64 0])).run Try.prog w = .ok (x == 0#128) w := by
  have := eqW_run x 0#128 w
  rwa [hI_zero, lI_zero] at this
end Go.Proofs.Ytdpmhpmnkollaaa
namespace Go.Proofs.Ytdpmhpmnkollaaa
open Go.RowKit
set_option linter.unusedSimpArgs false
set_option linter.unusedVariables false
attribute [local go_sem] Oper.semAt_some

def runsE (i N : Int) : List Rn → Int
  | [] => 0
  | r :: t => if runE r i N = 0 then runsE i N t else runE r i N
theorem runs_drop (i N : Int) (l : List Rn) (k : Nat) (h : k < l.length) : runsE i N (l.drop k) = if runE l[k] i N = 0 then runsE i N (l.drop (k + 1)) else runE l[k] i N := by
  rw [List.drop_eq_getElem_cons h]; rfl
def argB (b N : Int) : Bool := bitsB b && !(decide (b = 0) && decide (1 < N))
def ndeE (d : Nde) (i N : Int) : Int := if argB d.b N = true then (if ioB d = true then runsE i N d.r else 19) else 1
def ndsE (N : Int) : Nat → List Nde → Int
  | _, [] => 0
  | i, d :: t => if ndeE d i N = 0 then ndsE N (i + 1) t else ndeE d i N
theorem nds_drop (N : Int) (L : List Nde) (k : Nat) (h : k < L.length) : ndsE N k (L.drop k) = if ndeE L[k] k N = 0 then ndsE N (k + 1) (L.drop (k + 1)) else ndeE L[k] k N := by
  rw [List.drop_eq_getElem_cons h]; rfl
def nodesE (L : List Nde) : Int := if L = [] then 2 else ndsE L.length 0 L
end Go.Proofs.Ytdpmhpmnkollaaa
namespace Go.Proofs.Ytdpmhpmnkollaaa
open Go.RowKit
set_option linter.unusedSimpArgs false
set_option linter.unusedVariables false
attribute [local go_sem] Oper.semAt_some

def fwN : List Nde → Nat
  | [] => 0
  | d :: L => 1 + d.r.length + fwN L
theorem fw_take (L : List Nde) (k : Nat) (h : k < L.length) : fwN (L.take (k + 1)) = fwN (L.take k) + 1 + L[k].r.length := by
  induction L generalizing k with
  | nil => simp at h
  | cons d L ih =>
    cases k with
    | zero => simp [fwN]
    | succ k =>
      simp only [List.take_succ_cons, fwN, List.getElem_cons_succ]
      rw [ih k (by simpa using h)]
      omega
theorem fw_mem {L : List Nde} {d : Nde} (h : d ∈ L) : d.r.length < fwN L := by
  induction L with
  | nil => cases h
  | cons e L ih =>
    rcases List.mem_cons.mp h with h | h
    · subst h; simp only [fwN]; omega
    · have := ih h; simp only [fwN]; omega
theorem fw_le {L : List Nde} {K : Nat} (hr : ∀ d ∈ L, d.r.length ≤ K) : ∀ k, fwN (L.take k) ≤ k * (K + 1)
  | 0 => by simp [fwN]
  | k + 1 => by
    have ih := fw_le hr k
    rw [Nat.succ_mul]
    by_cases h : k < L.length
    · rw [fw_take L k h]
      have := hr _ (List.getElem_mem h)
      omega
    · rw [List.take_of_length_le (by omega)]
      rw [List.take_of_length_le (by omega)] at ih
      omega
def fewB (L : List Nde) : Bool := decide (L.length < 500) && decide (fwN (L.take 500) < 5000)
theorem few_ok {L : List Nde} (h : fewB L = true) : L.length < 500 ∧ ∀ d ∈ L, d.r.length < 5000 := by
  unfold fewB at h
  simp only [Bool.and_eq_true, decide_eq_true_eq] at h
  rw [List.take_of_length_le (by omega)] at h
  exact ⟨h.1, fun d hd => by have := fw_mem hd; omega⟩
set_option maxRecDepth 20000 in
set_option maxHeartbeats 4000000 in
theorem few_any (v : Value) (L : List Nde) (w : World) (hv : RwD w v L) (hl : L.length ≤ 140737488355328) (hr : ∀ d ∈ L, d.r.length ≤ 140737488355328) :
    Calls Try.prog 15 #[v] w fun e w' => e = .returned (.bool (fewB L)) ∧ w' = w := by
  obtain ⟨ao, c, rfl, hc, hrow⟩ := hv
  have HC := hid13 hrow
  have HL : Hid (L.length ≤ 140737488355328 ∧ ∀ d ∈ L, d.r.length ≤ 140737488355328) := ⟨hl, hr⟩
  have hl' : (L.length : Int) ≤ 140737488355328 := by omega
  have HF : Hid (fewB L = (decide (L.length < 500) && decide (fwN (L.take 500) < 5000))) := rfl
  generalize fewB L = fb at *
  clear hr hrow hl
  go_enter Try.func15, Try.ntmps15
  go_wp2_with fail
  go_loopw [3, 4] (fun nv kv wr => ∃ k n : Nat, k ≤ L.length ∧ k ≤ 500 ∧ nv = .int .i64 n ∧ kv = .int .i64 k ∧ Hid (n = fwN (L.take k)) ∧ wr = w) (fun _ kv _ => L.length - (intOf kv).toNat)
  case atStart => exact ⟨0, 0, by omega, by omega, rfl, rfl, (rfl : 0 = fwN (L.take 0)), rfl⟩
  case round =>
    obtain ⟨k, n, hk, hk5, rfl, rfl, hN, rfl⟩ := hrel
    have hnb : n ≤ 70368744177664500 := by
      have h1 := fw_le HL.out.2 k
      rw [← hN.out] at h1
      have h2 := Nat.mul_le_mul_right (140737488355328 + 1) hk5
      exact Nat.le_trans h1 (Nat.le_trans h2 (by decide))
    by_cases hlt : (k : Int) < (L.length : Int)
    · by_cases h5 : (k : Int) < 500
      · have hks : k < L.length := by omega
        obtain ⟨b, off, rfl, hcell⟩ := HC.out.resolve_left (by rintro rfl; simp at hks)
        obtain ⟨vr, x0, x1, hR⟩ := hcell k _ (List.getElem?_eq_getElem hks)
        have hrk := HL.out.2 _ (List.getElem_mem hks)
        obtain ⟨vo, vc, hvr, -, -⟩ := hR
        subst hvr
        have ht := fw_take L k hks
        generalize L[k].r.length = m at *
        have m1 : wrap64 ((n : Int) + 1) = (n : Int) + 1 := by unfold wrap64; omega
        have m2 : wrap64 ((n : Int) + 1 + (m : Int)) = (n : Int) + 1 + (m : Int) := by unfold wrap64; omega
        have m3 : wrap64 ((k : Int) + 1) = (k : Int) + 1 := by unfold wrap64; omega
        clear hcell x0
        go_wp2
        go_roundw
        case rel => exact ⟨k + 1, n + 1 + m, by omega, by omega, by push_cast; rfl, by push_cast; rfl, (by rw [ht, ← hN.out] : n + 1 + m = fwN (L.take (k + 1))), trivial⟩
        case measure => first | (simp [intOf]; omega) | (unfold intOf; simp; omega)
      · have hl5 : ¬ (L.length : Int) < 500 := by omega
        have hfb : fb = false := by rw [HF.out]; simp; omega
        subst hfb
        clear HC
        go_wp2
        go_ret
        exact ⟨rfl, rfl⟩
    · have hke : k = L.length := by omega
      subst hke
      by_cases h5 : (L.length : Int) < 500
      · have h5' : L.length < 500 := by omega
        have hF2 := HF.out
        have hN2 := hN.out
        rw [List.take_of_length_le (Nat.le_refl _)] at hN2
        rw [List.take_of_length_le (Nat.le_of_lt h5'), ← hN2] at hF2
        by_cases hn : (n : Int) < 5000
        · have hfb : fb = true := by rw [hF2]; simp; omega
          subst hfb
          clear HC hF2 hN2 HF hN
          go_wp2
          go_ret
          exact ⟨rfl, rfl⟩
        · have hfb : fb = false := by rw [hF2]; simp; omega
          subst hfb
          clear HC hF2 hN2 HF hN
          go_wp2
          go_ret
          exact ⟨rfl, rfl⟩
      · have hfb : fb = false := by rw [HF.out]; simp; omega
        subst hfb
        clear HC
        go_wp2
        go_ret
        exact ⟨rfl, rfl⟩
end Go.Proofs.Ytdpmhpmnkollaaa
namespace Go.Proofs.Ytdpmhpmnkollaaa
open Go.RowKit Go.Shelf
set_option linter.unusedSimpArgs false
set_option linter.unusedVariables false
attribute [local go_sem] Oper.semAt_some

def kidL (l : List Rn) : List Int := (l.filter (·.k)).map (·.n)
theorem kid_take (l : List Rn) (j : Nat) (r : Rn) (h : l[j]? = some r) : kidL (l.take (j + 1)) = if r.k then kidL (l.take j) ++ [r.n] else kidL (l.take j) := by
  unfold kidL
  rw [List.take_add_one, h, List.filter_append, List.map_append]
  cases hk : r.k <;> simp [hk]
structure KdM (Z : Nat → Prop) (A : Nat) (b : Int) (ao : Option Addr) (c : Nat) (l : List Rn) (W : World) : Prop where
  a : AtD W A b (.slice ao l.length c)
  za : Z A
  r : RwN W (.slice ao l.length c) l
  zr : l ≠ [] → ∀ ad, ao = some ad → Z ad.block
theorem rn_kz {Z : Nat → Prop} {W W' : World} {b o : Nat} {r : Rn} (h : RnAt W b o r) (g : KZ Z W W') (hz : Z b) : RnAt W' b o r := ⟨kz_cell g hz h.1, kz_cell g hz h.2.1, kz_cell g hz h.2.2.1, kz_cell g hz h.2.2.2⟩
theorem KdM.kz {Z : Nat → Prop} {A : Nat} {b : Int} {ao : Option Addr} {c : Nat} {l : List Rn} {W W' : World} (h : KdM Z A b ao c l W) (g : KZ Z W W') : KdM Z A b ao c l W' := by
  refine ⟨⟨kz_cell g h.za h.a.1, kz_cell g h.za h.a.2⟩, h.za, ?_, h.zr⟩
  obtain ⟨ao', c', e, hc, hr⟩ := h.r
  injection e with e1 e2 e3
  subst e1 e3
  refine ⟨ao, c, rfl, hc, ?_⟩
  rcases hr with hr | ⟨b, off, e, hr⟩
  · exact .inl hr
  · exact .inr ⟨b, off, e, fun j x hj => rn_kz (hr j x hj) g (h.zr (by rintro rfl; cases hj) _ e)⟩
end Go.Proofs.Ytdpmhpmnkollaaa
namespace Go.Proofs.Ytdpmhpmnkollaaa
open Go.RowKit Go.Shelf
set_option linter.unusedSimpArgs false
set_option linter.unusedVariables false
attribute [local go_sem] Oper.semAt_some

def usK (s : List Bool × Nat) (k : Int) : List Bool × Nat := if s.1.getD k.toNat false then s else (s.1.set k.toNat true, s.2 + 1)
def usN (s : List Bool × Nat) (d : Nde) : List Bool × Nat := (kidL d.r).foldl usK s
def us0 (N : Nat) : List Bool × Nat := ((List.replicate N false).set 0 true, 1)
def usedB (L : List Nde) : Bool := (L.foldl usN (us0 L.length)).2 == L.length
theorem usK_len (s : List Bool × Nat) (k : Int) : (usK s k).1.length = s.1.length := by unfold usK; split <;> simp
def USo (s : List Bool × Nat) : Prop := s.2 = s.1.count true
theorem usK_so {s : List Bool × Nat} (h : USo s) (k : Int) (hk : k.toNat < s.1.length) : USo (usK s k) := by
  unfold usK
  split
  · exact h
  · rename_i hf
    show s.2 + 1 = (s.1.set k.toNat true).count true
    rw [List.count_set hk, h]
    rw [List.getD_eq_getElem?_getD, List.getElem?_eq_getElem hk] at hf
    simp only [Option.getD_some] at hf
    simp [hf]
theorem usF_so : ∀ (ks : List Int) (s : List Bool × Nat), USo s → (∀ k ∈ ks, k.toNat < s.1.length) → USo (ks.foldl usK s) ∧ (ks.foldl usK s).1.length = s.1.length
  | [], s, h, _ => ⟨h, rfl⟩
  | k :: ks, s, h, hk => by
    have := usF_so ks (usK s k) (usK_so h k (hk k (List.mem_cons_self ..))) (fun j hj => by rw [usK_len]; exact hk j (List.mem_cons_of_mem _ hj))
    rw [usK_len] at this
    exact this
theorem usL_so : ∀ (L : List Nde) (s : List Bool × Nat), USo s → (∀ d ∈ L, ∀ k ∈ kidL d.r, k.toNat < s.1.length) → USo (L.foldl usN s) ∧ (L.foldl usN s).1.length = s.1.length
  | [], s, h, _ => ⟨h, rfl⟩
  | d :: L, s, h, hk => by
    have h1 := usF_so (kidL d.r) s h (hk d (List.mem_cons_self ..))
    have := usL_so L (usN s d) h1.1 (fun e he k hk' => by show _ < ((kidL d.r).foldl usK s).1.length; rw [h1.2]; exact hk e (List.mem_cons_of_mem _ he) k hk')
    exact ⟨this.1, this.2.trans h1.2⟩
theorem us0_so (N : Nat) (h : 0 < N) : USo (us0 N) ∧ (us0 N).1.length = N := by
  refine ⟨?_, by unfold us0; simp⟩
  unfold USo us0
  dsimp only
  rw [List.count_set (by simpa using h)]
  simp [List.count_replicate]
def cBo (b : Bool) : Value := .bool b
structure UsV (w : World) (N : Nat) (s : List Bool × Nat) (W : World) : Prop where
  g : W.heap[w.heap.size]? = some (.cells (s.1.map cBo).toArray 4)
  u : W.heap[w.heap.size + 1]? = some (.cells #[.slice (some ⟨w.heap.size, 0, none⟩) N N] 55)
  c : W.heap[w.heap.size + 1 + 1]? = some (.cells #[.int .i64 (s.2 : Int)] 3)
  b : Below w.heap.size w W
  l : s.1.length = N
section
variable {w W W' : World} {N : Nat} {s : List Bool × Nat}
theorem UsV.below (h : UsV w N s W) (hb : Below W.heap.size W W') : UsV w N s W' := ⟨(hb.block _ (lt_16 h.g)).trans h.g, (hb.block _ (lt_16 h.u)).trans h.u, (hb.block _ (lt_16 h.c)).trans h.c, keepb hb h.b, h.l⟩
theorem UsV.kept {row : Option Nat} (h : UsV w N s W) (hg : W.grownBy W' row) (hr : ∀ r, row = some r → w.heap.size ≤ r ∧ ∃ o : Obj, W.heap[r]? = some o ∧ o.isCells = false) : UsV w N s W' :=
  ⟨blk_16 hg (fun r e => (hr r e).2) h.g, blk_16 hg (fun r e => (hr r e).2) h.u, blk_16 hg (fun r e => (hr r e).2) h.c, h.b.grown hg h.b.size (fun r e => (hr r e).1), h.l⟩
theorem map_set16 (l : List Bool) (k : Nat) (b : Bool) : (l.map cBo).toArray.setIfInBounds k (.bool b) = ((l.set k b).map cBo).toArray := by
  rw [List.setIfInBounds_toArray, List.map_set]; rfl
theorem UsV.put (h : UsV w N s W) (k : Nat) : UsV w N (s.1.set k true, s.2) (W.setCell ⟨w.heap.size, k, none⟩ (.bool true)) := by
  refine ⟨?_, (far_16 (by omega)).trans h.u, (far_16 (by omega)).trans h.c, h.b.setCell (p := ⟨w.heap.size, k, none⟩) (Nat.le_refl _) _, by simp [h.l]⟩
  rw [set_16 h.g, map_set16]
theorem UsV.cell (h : UsV w N s W) {k : Nat} (hk : k < N) : W.cell? ⟨w.heap.size, k, none⟩ = some (.bool (s.1.getD k false)) := by
  refine at_16 h.g k _ ?_
  rw [List.getElem?_toArray, List.getElem?_map, List.getElem?_eq_getElem (by rw [h.l]; exact hk), List.getD_eq_getElem?_getD, List.getElem?_eq_getElem (by rw [h.l]; exact hk)]
  rfl
end
theorem Try.infoO16 : (Try.prog.info? 4).map (fun i => (i.zero, i.size, i.bytes)) = some (some (.bool false), 1, 1) := by kernel_rfl
end Go.Proofs.Ytdpmhpmnkollaaa
namespace Go.Proofs.Ytdpmhpmnkollaaa
open Go.RowKit Go.Shelf
set_option linter.unusedSimpArgs false
set_option linter.unusedVariables false
attribute [local go_sem] Oper.semAt_some

abbrev Prs := List (Int × Int)
def upR (b m : Int) (P : Prs) (k : Int) : Prs := P.set k.toNat (max (P.getD k.toNat (0, 0)).1 b, max (P.getD k.toNat (0, 0)).2 m)
def dpG (F : Int) : List Nde → Nat → Prs → Int → Int × Int
  | [], _, _, d => (d, 0)
  | n :: L, i, P, d => if F < (P.getD i (0, 0)).1 + n.b then (0, 27) else dpG F L (i + 1) ((kidL n.r).foldl (upR ((P.getD i (0, 0)).1 + n.b) ((P.getD i (0, 0)).2 + min 1 n.b)) P) (max d ((P.getD i (0, 0)).2 + min 1 n.b))
theorem dp_drop (F : Int) (L : List Nde) (i : Nat) (d : Nde) (h : L[i]? = some d) (P : Prs) (e : Int) : dpG F (L.drop i) i P e = if F < (P.getD i (0, 0)).1 + d.b then (0, 27) else dpG F (L.drop (i + 1)) (i + 1) ((kidL d.r).foldl (upR ((P.getD i (0, 0)).1 + d.b) ((P.getD i (0, 0)).2 + min 1 d.b)) P) (max e ((P.getD i (0, 0)).2 + min 1 d.b)) := by
  obtain ⟨hi, hd⟩ := List.getElem?_eq_some_iff.mp h
  rw [List.drop_eq_getElem_cons hi, hd]
  rfl
def deepR (F : Int) (L : List Nde) : Int × Int := dpG F L 0 (List.replicate L.length (0, 0)) 0
def InP (N i : Nat) (P : Prs) : Prop := P.length = N ∧ ∀ p ∈ P, 0 ≤ p.1 ∧ p.1 ≤ 128 ∧ 0 ≤ p.2 ∧ p.2 ≤ i
theorem InP.at {N i : Nat} {P : Prs} (h : InP N i P) (k : Nat) : 0 ≤ (P.getD k (0, 0)).1 ∧ (P.getD k (0, 0)).1 ≤ 128 ∧ 0 ≤ (P.getD k (0, 0)).2 ∧ (P.getD k (0, 0)).2 ≤ i := by
  rw [List.getD_eq_getElem?_getD]
  cases hk : P[k]? with
  | none => simp
  | some p => exact h.2 p (List.mem_of_getElem? hk)
theorem InP.up {N i : Nat} {P : Prs} (h : InP N i P) (b m : Int) (hb0 : 0 ≤ b) (hb : b ≤ 128) (hm0 : 0 ≤ m) (hm : m ≤ i) (k : Int) : InP N i (upR b m P k) := by
  unfold upR
  refine ⟨by simp [h.1], fun p hp => ?_⟩
  rcases List.mem_or_eq_of_mem_set hp with q | rfl
  · exact h.2 p q
  · have := h.at k.toNat
    dsimp only
    omega
theorem InP.ups {N i : Nat} (b m : Int) (hb0 : 0 ≤ b) (hb : b ≤ 128) (hm0 : 0 ≤ m) (hm : m ≤ i) : ∀ (ks : List Int) {P : Prs}, InP N i P → InP N i (ks.foldl (upR b m) P)
  | [], _, h => h
  | k :: ks, _, h => InP.ups b m hb0 hb hm0 hm ks (h.up b m hb0 hb hm0 hm k)
theorem InP.more {N i j : Nat} {P : Prs} (h : InP N i P) (hij : i ≤ j) : InP N j P := ⟨h.1, fun p hp => by have := h.2 p hp; omega⟩
def flatP (P : Prs) : List Value := P.flatMap fun p => [.int .i64 p.1, .int .i64 p.2]
theorem flp_at : ∀ (P : Prs) (k : Nat) (h : k < P.length), (flatP P)[k * 2]? = some (.int .i64 P[k].1) ∧ (flatP P)[k * 2 + 1]? = some (.int .i64 P[k].2)
  | p :: P, 0, h => ⟨rfl, rfl⟩
  | p :: P, k + 1, h => by
    have := flp_at P k (by simpa using h)
    rw [show (k + 1) * 2 = k * 2 + 2 by omega, show k * 2 + 2 + 1 = k * 2 + 1 + 2 by omega]
    simpa [flatP] using this
structure DpV (w : World) (N : Nat) (P : Prs) (W : World) : Prop where
  g : W.heap[w.heap.size]? = some (.cells (flatP P).toArray 177)
  u : W.heap[w.heap.size + 1]? = some (.cells #[.slice (some ⟨w.heap.size, 0, none⟩) N N] 175)
  b : Below w.heap.size w W
  l : P.length = N
section
variable {w W W' : World} {N : Nat} {P : Prs}
theorem DpV.below (h : DpV w N P W) (hb : Below W.heap.size W W') : DpV w N P W' := ⟨(hb.block _ (lt_16 h.g)).trans h.g, (hb.block _ (lt_16 h.u)).trans h.u, keepb hb h.b, h.l⟩
theorem DpV.kept {row : Option Nat} (h : DpV w N P W) (hg : W.grownBy W' row) (hr : ∀ r, row = some r → w.heap.size ≤ r ∧ ∃ o : Obj, W.heap[r]? = some o ∧ o.isCells = false) : DpV w N P W' :=
  ⟨blk_16 hg (fun r e => (hr r e).2) h.g, blk_16 hg (fun r e => (hr r e).2) h.u, h.b.grown hg h.b.size (fun r e => (hr r e).1), h.l⟩
theorem DpV.cell (h : DpV w N P W) {k : Nat} (hk : k < N) : W.cell? ⟨w.heap.size, k * 2, none⟩ = some (.int .i64 (P.getD k (0, 0)).1) ∧ W.cell? ⟨w.heap.size, k * 2 + 1, none⟩ = some (.int .i64 (P.getD k (0, 0)).2) := by
  have hk' : k < P.length := by rw [h.l]; exact hk
  obtain ⟨a, b⟩ := flp_at P k hk'
  rw [List.getD_eq_getElem?_getD, List.getElem?_eq_getElem hk']
  exact ⟨at_16 h.g _ _ (by rw [List.getElem?_toArray, a]; rfl), at_16 h.g _ _ (by rw [List.getElem?_toArray, b]; rfl)⟩
end
end Go.Proofs.Ytdpmhpmnkollaaa
namespace Go.Proofs.Ytdpmhpmnkollaaa
open Go.RowKit
set_option linter.unusedSimpArgs false
set_option linter.unusedVariables false

def leadN (z : BitVec 128) : Nat := if z.toNat = 0 then 128 else 127 - z.toNat.log2
theorem lead_char (z : BitVec 128) (k : Nat) (hk : k ≤ 128) (h1 : z.toNat < 2 ^ (128 - k)) (h2 : k = 128 ∨ 2 ^ (127 - k) ≤ z.toNat) : leadN z = k := by
  unfold leadN
  split
  · rename_i h
    rcases h2 with h2 | h2
    · exact h2.symm
    · rw [h] at h2; have := Nat.two_pow_pos (127 - k); omega
  · rename_i h
    have hlt : z.toNat.log2 < 128 - k := (Nat.log2_lt h).mpr h1
    rcases h2 with h2 | h2
    · subst h2; simp at hlt
    · have := (Nat.le_log2 h).mpr h2; omega
theorem bit_step (z : BitVec 128) (k : Nat) (hk : k < 128) (h : z.toNat < 2 ^ (128 - k)) : (z.getLsbD (127 - k) = false → z.toNat < 2 ^ (128 - (k + 1))) ∧ (z.getLsbD (127 - k) = true → 2 ^ (127 - k) ≤ z.toNat) := by
  have e : 128 - k = (127 - k) + 1 := by omega
  have e2 : 128 - (k + 1) = 127 - k := by omega
  rw [e, Nat.pow_succ] at h
  rw [e2]
  have t : z.getLsbD (127 - k) = decide (z.toNat / 2 ^ (127 - k) % 2 = 1) := by
    unfold BitVec.getLsbD; rw [Nat.testBit_eq_decide_div_mod_eq]
  have hd : z.toNat / 2 ^ (127 - k) < 2 := by
    apply Nat.div_lt_of_lt_mul; omega
  constructor
  · intro hf
    rw [t] at hf
    have hq := of_decide_eq_false hf
    have : z.toNat / 2 ^ (127 - k) = 0 := by
      generalize z.toNat / 2 ^ (127 - k) = q at hq hd
      omega
    rcases Nat.div_eq_zero_iff.mp this with h0 | h0
    · have := Nat.two_pow_pos (127 - k); omega
    · exact h0
  · intro hf
    rw [t] at hf; simp at hf
    apply Classical.byContradiction; intro hn
    have : z.toNat / 2 ^ (127 - k) = 0 := Nat.div_eq_of_lt (by omega)
    omega
theorem bitZ_eq (x y : BitVec 128) (k : Nat) (hk : k < 128) : bitZ x (k : Int) = bitZ y (k : Int) ↔ (x ^^^ y).getLsbD (127 - k) = false := by
  have e : (127 - (k : Int)).toNat = 127 - k := by omega
  unfold bitZ
  rw [bitB_in x k (by omega) (by omega), bitB_in y k (by omega) (by omega), e, BitVec.getLsbD_xor]
  cases x.getLsbD (127 - k) <;> cases y.getLsbD (127 - k) <;> simp

theorem lead_wide (v : BitVec 128) (n : Int) (h0 : 0 ≤ n) (h1 : n ≤ 128) : ((leadN v : Nat) : Int) < 128 - n ↔ ¬ v >>> n.toNat = 0#128 := by
  have hv := v.isLt
  have key : v >>> n.toNat = 0#128 ↔ v.toNat < 2 ^ n.toNat := by
    constructor
    · intro h
      have := congrArg BitVec.toNat h
      rw [BitVec.toNat_ushiftRight, Nat.shiftRight_eq_div_pow] at this
      have this2 : v.toNat / 2 ^ n.toNat = 0 := this
      rcases Nat.div_eq_zero_iff.mp this2 with h0 | h0
      · have := Nat.two_pow_pos n.toNat; omega
      · exact h0
    · intro h
      apply BitVec.eq_of_toNat_eq
      rw [BitVec.toNat_ushiftRight, Nat.shiftRight_eq_div_pow, Nat.div_eq_of_lt h]; rfl
  rw [key]
  unfold leadN
  split
  · rename_i h
    rw [h]; have := Nat.two_pow_pos n.toNat
    constructor
    · intro; omega
    · intro; omega
  · rename_i h
    have hl : v.toNat.log2 < 128 := (Nat.log2_lt h).mpr hv
    have := Nat.log2_lt (k := n.toNat) h
    constructor
    · intro g g2
      have := this.mpr g2; omega
    · intro g
      have : ¬ v.toNat.log2 < n.toNat := fun q => g (this.mp q)
      omega

end Go.Proofs.Ytdpmhpmnkollaaa
namespace Go.Proofs.Ytdpmhpmnkollaaa
open Go.RowKit
set_option linter.unusedSimpArgs false
set_option linter.unusedVariables false

def ocB (b : Nat) : Nat := b % 2 + b / 2 % 2 + b / 4 % 2 + b / 8 % 2 + b / 16 % 2 + b / 32 % 2 + b / 64 % 2 + b / 128 % 2
def bm (f : Nat → Nat) : Nat → Nat → Nat
  | 0, _ => 0
  | k + 1, x => f (x % 256) + 256 * bm f k (x / 256)
def mm (m : Nat) : Nat → Nat
  | 0 => 0
  | k + 1 => m + 256 * mm m k
def oc : Nat → Nat → Nat
  | 0, _ => 0
  | k + 1, x => ocB (x % 256) + oc k (x / 256)
def f1 (b : Nat) : Nat := ((b / 2) &&& 85) + (b &&& 85)
def f2 (b : Nat) : Nat := ((b / 4) &&& 51) + (b &&& 51)
theorem and_split (a m M : Nat) (hm : m < 256) : a &&& (m + 256 * M) = ((a % 256) &&& m) + 256 * ((a / 256) &&& M) := by
  have h1 : (a &&& (m + 256 * M)) % 2 ^ 8 = (a % 2 ^ 8) &&& ((m + 256 * M) % 2 ^ 8) := Nat.and_mod_two_pow
  have h2 : (a &&& (m + 256 * M)) / 2 ^ 8 = (a / 2 ^ 8) &&& ((m + 256 * M) / 2 ^ 8) := Nat.and_div_two_pow
  have e1 : (m + 256 * M) % 2 ^ 8 = m := by omega
  have e2 : (m + 256 * M) / 2 ^ 8 = M := by omega
  rw [e1] at h1
  rw [e2] at h2
  have e3 : (2 : Nat) ^ 8 = 256 := by decide
  rw [e3] at h1 h2
  have := Nat.div_add_mod (a &&& (m + 256 * M)) 256
  omega
set_option maxRecDepth 100000 in
theorem b1 : ∀ b : Fin 256, ∀ c : Fin 2, (b.val / 2 + 128 * c.val) &&& 85 = (b.val / 2) &&& 85 := by decide +kernel
theorem b2 : ∀ b : Fin 256, ∀ c : Fin 4, (b.val / 4 + 64 * c.val) &&& 51 = (b.val / 4) &&& 51 := by decide +kernel
theorem b3 : ∀ b : Fin 256, ∀ c : Fin 5, (f2 (f1 b.val) / 16 + 16 * c.val + f2 (f1 b.val)) &&& 15 = ocB b.val := by decide +kernel
theorem b4 : ∀ b : Fin 256, f1 b.val < 256 ∧ f2 (f1 b.val) % 16 ≤ 4 ∧ f2 (f1 b.val) / 16 ≤ 4 ∧ ocB b.val ≤ 8 ∧ ocB (255 - b.val) + ocB b.val = 8 := by decide +kernel
theorem l1 (k : Nat) : ∀ x, ((x / 2) &&& mm 85 k) + (x &&& mm 85 k) = bm f1 k x := by
  induction k with
  | zero => intro x; simp [mm, bm]
  | succ k ih =>
    intro x
    simp only [mm, bm]
    rw [and_split _ 85 _ (by decide), and_split _ 85 _ (by decide)]
    have e1 : (x / 2) % 256 = (x % 256) / 2 + 128 * (x / 256 % 2) := by omega
    have e2 : x / 2 / 256 = x / 256 / 2 := by omega
    have hb := b1 ⟨x % 256, by omega⟩ ⟨x / 256 % 2, by omega⟩
    have := ih (x / 256)
    rw [e1, e2]
    simp only at hb
    rw [hb]
    have hf : f1 (x % 256) = ((x % 256 / 2) &&& 85) + ((x % 256) &&& 85) := rfl
    omega
theorem l2 (k : Nat) : ∀ x, ((x / 4) &&& mm 51 k) + (x &&& mm 51 k) = bm f2 k x := by
  induction k with
  | zero => intro x; simp [mm, bm]
  | succ k ih =>
    intro x
    simp only [mm, bm]
    rw [and_split _ 51 _ (by decide), and_split _ 51 _ (by decide)]
    have e1 : (x / 4) % 256 = (x % 256) / 4 + 64 * (x / 256 % 4) := by omega
    have e2 : x / 4 / 256 = x / 256 / 4 := by omega
    have hb := b2 ⟨x % 256, by omega⟩ ⟨x / 256 % 4, by omega⟩
    have := ih (x / 256)
    rw [e1, e2]
    simp only at hb
    rw [hb]
    have hf : f2 (x % 256) = ((x % 256 / 4) &&& 51) + ((x % 256) &&& 51) := rfl
    omega
theorem bm_bm (k : Nat) : ∀ x, bm f2 k (bm f1 k x) = bm (fun b => f2 (f1 b)) k x := by
  induction k with
  | zero => intro x; rfl
  | succ k ih =>
    intro x
    have h := (b4 ⟨x % 256, by omega⟩).1
    simp only at h
    simp only [bm]
    have e1 : (f1 (x % 256) + 256 * bm f1 k (x / 256)) % 256 = f1 (x % 256) := by omega
    have e2 : (f1 (x % 256) + 256 * bm f1 k (x / 256)) / 256 = bm f1 k (x / 256) := by omega
    rw [e1, e2, ih]
theorem bm_mod (k : Nat) (x : Nat) : bm (fun b => f2 (f1 b)) k x % 16 ≤ 4 := by
  cases k with
  | zero => simp [bm]
  | succ k =>
    have h := (b4 ⟨x % 256, by omega⟩).2.1
    simp only at h
    simp only [bm]; omega
theorem l3 (k : Nat) : ∀ x, (bm (fun b => f2 (f1 b)) k x / 16 + bm (fun b => f2 (f1 b)) k x) &&& mm 15 k = bm ocB k x := by
  induction k with
  | zero => intro x; simp [mm, bm]
  | succ k ih =>
    intro x
    simp only [mm]
    rw [and_split _ 15 _ (by decide)]
    have hm := bm_mod k (x / 256)
    have h := (b4 ⟨x % 256, by omega⟩).2.1
    have h' := (b4 ⟨x % 256, by omega⟩).2.2.1
    have hb := b3 ⟨x % 256, by omega⟩ ⟨bm (fun b => f2 (f1 b)) k (x / 256) % 16, by omega⟩
    have := ih (x / 256)
    simp only [bm] at *
    generalize bm (fun b => f2 (f1 b)) k (x / 256) = y at *
    generalize f2 (f1 (x % 256)) = g at *
    have e1 : ((g + 256 * y) / 16 + (g + 256 * y)) % 256 = g / 16 + 16 * (y % 16) + g := by omega
    have e2 : ((g + 256 * y) / 16 + (g + 256 * y)) / 256 = y / 16 + y := by omega
    rw [e1, e2, hb, this]
theorem key (n a B z : Nat) (h : a < n) (e : z = a + n * B) : z / n = B := by
  rw [e, Nat.add_mul_div_left _ _ (by omega), Nat.div_eq_of_lt h]; omega
end Go.Proofs.Ytdpmhpmnkollaaa
namespace Go.Proofs.Ytdpmhpmnkollaaa
open Go.RowKit
set_option linter.unusedSimpArgs false
set_option linter.unusedVariables false

theorem wrapu_nat (n : Nat) (h : n < 18446744073709551616) : IntKind.u64.wrap (n : Int) = (n : Int) := wrap_nat n h
theorem m85 : mm 85 8 = 6148914691236517205 := by decide
theorem m51 : mm 51 8 = 3689348814741910323 := by decide
theorem m15 : mm 15 8 = 1085102592571150095 := by decide
theorem bm_lt (f : Nat → Nat) (hf : ∀ b : Fin 256, f b.val < 256) (k : Nat) : ∀ x, bm f k x < 256 ^ k := by
  induction k with
  | zero => intro x; simp [bm]
  | succ k ih =>
    intro x; have := ih (x / 256); have h := hf ⟨x % 256, by omega⟩; simp only at h
    simp only [bm]; rw [Nat.pow_succ]; omega
theorem bm1_lt (x : Nat) : bm f1 8 x < 18446744073709551616 := bm_lt f1 (fun b => (b4 b).1) 8 x
theorem bm2_lt (x : Nat) : bm (fun b => f2 (f1 b)) 8 x < 4 * 256 ^ 8 / 8 := by
  have h : ∀ k x, bm (fun b => f2 (f1 b)) k x ≤ 68 * mm 1 k := by
    intro k; induction k with
    | zero => intro x; simp [bm, mm]
    | succ k ih =>
      intro x; have := ih (x / 256); have h1 := (b4 ⟨x % 256, by omega⟩).2.1; have h2 := (b4 ⟨x % 256, by omega⟩).2.2.1; simp only at h1 h2
      simp only [bm, mm]; omega
  have := h 8 x
  have e : mm 1 8 = 72340172838076673 := by decide
  rw [e] at this; omega
theorem s1 (x : Nat) (h : x < 18446744073709551616) : IntKind.u64.wrap (bits .and .u64 ((x : Int) / 2) 6148914691236517205 + bits .and .u64 (x : Int) 6148914691236517205) = ((bm f1 8 x : Nat) : Int) := by
  have e : ((x : Int) / 2) = ((x / 2 : Nat) : Int) := by omega
  have a1 : bits .and .u64 ((x / 2 : Nat) : Int) 6148914691236517205 = ((x / 2 &&& 6148914691236517205 : Nat) : Int) := bits_and_u64_nat (x / 2) 6148914691236517205 (by omega) (by decide)
  have a2 : bits .and .u64 (x : Int) 6148914691236517205 = ((x &&& 6148914691236517205 : Nat) : Int) := bits_and_u64_nat x 6148914691236517205 h (by decide)
  have l := l1 8 x
  rw [m85] at l
  rw [e, a1, a2, ← Int.natCast_add, l]
  exact wrapu_nat _ (bm1_lt x)
theorem s2 (x : Nat) : IntKind.u64.wrap (bits .and .u64 (((bm f1 8 x : Nat) : Int) / 4) 3689348814741910323 + bits .and .u64 ((bm f1 8 x : Nat) : Int) 3689348814741910323) = ((bm (fun b => f2 (f1 b)) 8 x : Nat) : Int) := by
  have h := bm1_lt x
  have e : (((bm f1 8 x : Nat) : Int) / 4) = ((bm f1 8 x / 4 : Nat) : Int) := by omega
  have a1 : bits .and .u64 ((bm f1 8 x / 4 : Nat) : Int) 3689348814741910323 = ((bm f1 8 x / 4 &&& 3689348814741910323 : Nat) : Int) := bits_and_u64_nat (bm f1 8 x / 4) 3689348814741910323 (by omega) (by decide)
  have a2 : bits .and .u64 ((bm f1 8 x : Nat) : Int) 3689348814741910323 = ((bm f1 8 x &&& 3689348814741910323 : Nat) : Int) := bits_and_u64_nat (bm f1 8 x) 3689348814741910323 h (by decide)
  have l := l2 8 (bm f1 8 x)
  rw [m51, bm_bm] at l
  rw [e, a1, a2, ← Int.natCast_add, l]
  have := bm2_lt x
  exact wrapu_nat _ (by omega)
theorem s3 (x : Nat) : bits .and .u64 (IntKind.u64.wrap (((bm (fun b => f2 (f1 b)) 8 x : Nat) : Int) / 16 + ((bm (fun b => f2 (f1 b)) 8 x : Nat) : Int))) 1085102592571150095 = ((bm ocB 8 x : Nat) : Int) := by
  have h := bm2_lt x
  have l := l3 8 x
  rw [m15] at l
  generalize bm (fun b => f2 (f1 b)) 8 x = y at *
  have e : ((y : Int) / 16 + (y : Int)) = ((y / 16 + y : Nat) : Int) := by omega
  have a1 : bits .and .u64 ((y / 16 + y : Nat) : Int) 1085102592571150095 = (((y / 16 + y) &&& 1085102592571150095 : Nat) : Int) := bits_and_u64_nat (y / 16 + y) 1085102592571150095 (by omega) (by decide)
  rw [e, wrapu_nat _ (by omega), a1, l]

end Go.Proofs.Ytdpmhpmnkollaaa
namespace Go.Proofs.Ytdpmhpmnkollaaa
open Go.RowKit
set_option linter.unusedSimpArgs false
set_option linter.unusedVariables false

end Go.Proofs.Ytdpmhpmnkollaaa
namespace Go.Proofs.Ytdpmhpmnkollaaa
open Go.RowKit
set_option linter.unusedSimpArgs false
set_option linter.unusedVariables false

end Go.Proofs.Ytdpmhpmnkollaaa
namespace Go.Proofs.Ytdpmhpmnkollaaa
open Go.RowKit
set_option linter.unusedSimpArgs false
set_option linter.unusedVariables false
attribute [local go_sem] Oper.semAt_some

theorem nds_all (N : Int) : ∀ (L : List Nde) (i : Nat), ndsE N i L = 0 → ∀ (k : Nat) (d : Nde), L[k]? = some d → ndeE d ((i + k : Nat) : Int) N = 0
  | [], i, h, k, d, hd => by simp at hd
  | e :: L, i, h, k, d, hd => by
    unfold ndsE at h
    by_cases h0 : ndeE e i N = 0
    · rw [if_pos h0] at h
      cases k with
      | zero => simp at hd; subst hd; simpa using h0
      | succ k =>
        have := nds_all N L (i + 1) h k d (by simpa using hd)
        rwa [show i + 1 + k = i + (k + 1) by omega] at this
    · rw [if_neg h0] at h
      exact absurd h h0
theorem runs_all (i N : Int) : ∀ (l : List Rn), runsE i N l = 0 → ∀ r ∈ l, runE r i N = 0
  | [], h, r, hr => by cases hr
  | e :: l, h, r, hr => by
    unfold runsE at h
    by_cases h0 : runE e i N = 0
    · rw [if_pos h0] at h
      rcases List.mem_cons.mp hr with rfl | q
      · exact h0
      · exact runs_all i N l h r q
    · rw [if_neg h0] at h
      exact absurd h h0
structure NdOk (d : Nde) (i N : Int) : Prop where
  b0 : 0 ≤ d.b
  b1 : d.b ≤ 128
  bz : d.b = 0 → N ≤ 1
  io : ioB d = true
  hop : ∀ r ∈ d.r, r.k = false → 0 ≤ r.n ∧ r.n ≤ 65535
  kid : ∀ r ∈ d.r, r.k = true → i < r.n ∧ r.n < N
theorem nd_ok {d : Nde} {i N : Int} (h : ndeE d i N = 0) : NdOk d i N := by
  unfold ndeE at h
  by_cases h1 : argB d.b N = true
  · rw [if_pos h1] at h
    by_cases h2 : ioB d = true
    · rw [if_pos h2] at h
      unfold argB bitsB at h1
      simp at h1
      have hr := runs_all i N d.r h
      refine ⟨h1.1.1, h1.1.2, fun q => ?_, h2, fun r hr' hk => ?_, fun r hr' hk => ?_⟩
      · rcases h1.2 with z | z
        · exact absurd q z
        · omega
      · have := hr r hr'
        unfold runE at this
        rw [hk] at this
        simp at this
        omega
      · have := hr r hr'
        unfold runE at this
        rw [hk] at this
        simp at this
        omega
    · rw [if_neg h2] at h; omega
  · rw [if_neg h1] at h; omega
theorem mem_kidL {l : List Rn} {x : Int} (h : x ∈ kidL l) : ∃ r ∈ l, r.k = true ∧ r.n = x := by
  unfold kidL at h
  obtain ⟨r, hr, rfl⟩ := List.mem_map.mp h
  obtain ⟨h1, h2⟩ := List.mem_filter.mp hr
  exact ⟨r, h1, by simpa using h2, rfl⟩
def NdsOk (L : List Nde) : Prop := 0 < L.length ∧ ∀ (k : Nat) (d : Nde), L[k]? = some d → NdOk d k L.length
theorem nodes_ok {L : List Nde} (h : nodesE L = 0) : NdsOk L := by
  unfold nodesE at h
  by_cases h0 : L = []
  · rw [if_pos h0] at h; omega
  · rw [if_neg h0] at h
    refine ⟨List.length_pos_iff.mpr h0, fun k d hd => ?_⟩
    have := nd_ok (nds_all _ L 0 h k d hd)
    rwa [Nat.zero_add] at this
theorem NdsOk.bits {L : List Nde} (h : NdsOk L) : ∀ d ∈ L, 0 ≤ d.b ∧ d.b ≤ 128 := fun d hd => by
  obtain ⟨k, hk⟩ := List.getElem?_of_mem hd
  exact ⟨(h.2 k d hk).b0, (h.2 k d hk).b1⟩
theorem NdsOk.kids {L : List Nde} (h : NdsOk L) : ∀ d ∈ L, ∀ x ∈ kidL d.r, 0 ≤ x ∧ x < L.length := fun d hd x hx => by
  obtain ⟨k, hk⟩ := List.getElem?_of_mem hd
  obtain ⟨r, h1, h2, rfl⟩ := mem_kidL hx
  have := (h.2 k d hk).kid r h1 h2
  omega
def chkM (F : Int) (L : List Nde) : Int × Int := if fam F = true then (if nodesE L = 0 then (if usedB L = true then deepR F L else (0, 31)) else (0, nodesE L)) else (0, 11)
end Go.Proofs.Ytdpmhpmnkollaaa
