/-
  Part 8 of the proof: 4 texts, one behind the other.
-/
import Derived.Test.YtbgoclfifhdonaaPart6
import Derived.Test.YtbgoclfifhdonaaPart7
import Derived.Test.YtbgoclfifhdonaaPart5
import Derived.ScopeJumps
namespace Go.Proofs.Ytbgoclfifhdonaa
open Go.RowKit
set_option linter.unusedSimpArgs false
set_option linter.unusedVariables false

theorem dc_map19 {l : List Nat} {a : Int} (h : dcE l a = 0) (ho : (dcI l a).op = 2) : (dcI l a).m.length = mwN (dcI l a).n.toNat := by
  obtain ⟨h1, h2, h3⟩ := dcE_stand h
  obtain ⟨k, rfl⟩ : ∃ k : Nat, a = (k : Int) := ⟨a.toNat, by omega⟩
  rw [Int.toNat_natCast] at h2 h3
  have hI : dcI l (k : Int) = ⟨insO l k, insN l k, (rdP l k).1⟩ := by unfold dcI; rw [if_pos h, Int.toNat_natCast]
  rw [hI] at ho ⊢
  dsimp only at ho ⊢
  unfold rdP at h3 ⊢
  split at h3
  case isFalse => cases h3
  rename_i hop
  rw [if_pos hop]
  split at h3
  case isFalse => cases h3
  rename_i hrm
  rw [if_pos hrm]
  split at h3
  case isFalse => cases h3
  rename_i htk
  rw [if_pos htk, if_pos ho]
  try rw [if_pos ho] at h3
  unfold rmP at h3 ⊢
  split at h3
  case isFalse => cases h3
  rename_i hs
  rw [if_pos hs]
  split at h3
  case isFalse => cases h3
  rename_i ht
  rw [if_pos ht]
  exact mpL_len _ _ _
theorem dc_n4 {l : List Nat} {a : Int} (h : dcE l a = 0) (ho : (dcI l a).op = 4) : (dcI l a).n ≤ 65535 := by
  obtain ⟨h1, h2, h3⟩ := dcE_stand h
  obtain ⟨k, rfl⟩ : ∃ k : Nat, a = (k : Int) := ⟨a.toNat, by omega⟩
  rw [Int.toNat_natCast] at h2 h3
  have hI : dcI l (k : Int) = ⟨insO l k, insN l k, (rdP l k).1⟩ := by unfold dcI; rw [if_pos h, Int.toNat_natCast]
  rw [hI] at ho ⊢
  dsimp only at ho ⊢
  unfold rdP at h3
  split at h3
  case isFalse => cases h3
  split at h3
  case isFalse => cases h3
  split at h3
  case isFalse => cases h3
  rename_i htk
  unfold tkB at htk
  simp only [Bool.and_eq_true, decide_eq_true_eq] at htk
  have := htk.2
  unfold kHi at this
  rw [if_neg (by omega), if_pos ho] at this
  exact this
theorem dc_n3 {l : List Nat} {a : Int} (h : dcE l a = 0) (ho : (dcI l a).op ≠ 4) : 1 ≤ (dcI l a).n := by
  obtain ⟨h1, h2, h3⟩ := dcE_stand h
  obtain ⟨k, rfl⟩ : ∃ k : Nat, a = (k : Int) := ⟨a.toNat, by omega⟩
  rw [Int.toNat_natCast] at h2 h3
  have hI : dcI l (k : Int) = ⟨insO l k, insN l k, (rdP l k).1⟩ := by unfold dcI; rw [if_pos h, Int.toNat_natCast]
  rw [hI] at ho ⊢
  dsimp only at ho ⊢
  unfold rdP at h3
  split at h3
  case isFalse => cases h3
  split at h3
  case isFalse => cases h3
  split at h3
  case isFalse => cases h3
  rename_i htk
  unfold tkB at htk
  simp only [Bool.and_eq_true, decide_eq_true_eq] at htk
  have := htk.1
  unfold kLo at this
  rw [if_neg ho] at this
  exact this
noncomputable def doM (F : Int) (x : BitVec 128) (m : Mc) (i : Ins) (z : Int) : Mc :=
  if i.op = 1 then exM F x m i.n else if i.op = 2 then ixM m i.n i.m z else if i.op = 3 then { m with pl := m.pl + i.n, hb := 0, hn := 0 } else if i.op = 4 then { m with en := true, hop := i.n } else m
def doE (F : Int) (m : Mc) (i : Ins) : Int := if i.op = 1 then exE F m i.n else if i.op = 2 then ixE m i.n i.m else 0
noncomputable def stM (F : Int) (x : BitVec 128) (l : List Nat) (m : Mc) : Mc :=
  if dcE l m.pl ≠ 0 then { m with en := true, err := dcE l m.pl }
  else if doE F m (dcI l m.pl) ≠ 0 then { m with en := true, err := doE F m (dcI l m.pl) }
  else { doM F x m (dcI l m.pl) (dcZ l m.pl) with st := m.st + 1 }
noncomputable def goM (F : Int) (x : BitVec 128) (l : List Nat) : Nat → Mc → Mc
  | 0, m => m
  | k + 1, m => if m.en = true then m else goM F x l k (stM F x l m)
structure MOk (F L : Int) (m : Mc) : Prop where
  f : m.en = false → F = 32 ∨ F = 128
  p0 : 0 ≤ m.pl
  p1 : m.pl ≤ L + 33554432
  s0 : 0 ≤ m.st
  s1 : m.st ≤ L
  s2 : m.en = false → m.st ≤ m.pl
  e0 : 0 ≤ m.ex
  i0 : 0 ≤ m.ix
  ei : m.ex + m.ix ≤ m.st
  b0 : 0 ≤ m.bt
  b1 : m.en = false → m.bt ≤ F
  h0 : 0 ≤ m.hb
  h1 : m.hb ≤ 24
  n0 : 0 ≤ m.hn
  n1 : m.hn < 2 ^ m.hb.toNat
  o0 : 0 ≤ m.hop
  o1 : m.hop ≤ 65535
  er : m.err ≠ 0 → m.hop = 0
  go : m.en = false → m.err = 0 ∧ m.hop = 0
theorem MOk.hn24 {F L : Int} {m : Mc} (h : MOk F L m) : m.hn < 16777216 := by
  have h1 := h.n1
  have h2 := h.h1
  have h3 : (2 : Int) ^ m.hb.toNat ≤ 16777216 := by
    have h3 : 2 ^ m.hb.toNat ≤ 2 ^ 24 := Nat.pow_le_pow_right (by decide) (by omega)
    have h4 : ((2 ^ m.hb.toNat : Nat) : Int) ≤ ((2 ^ 24 : Nat) : Int) := Int.ofNat_le.2 h3
    have h5 : ((2 ^ m.hb.toNat : Nat) : Int) = 2 ^ m.hb.toNat := by norm_cast
    rw [h5] at h4
    exact h4
  omega
theorem stM_dc {F : Int} {x : BitVec 128} {l : List Nat} {m : Mc} (h : dcE l m.pl ≠ 0) : stM F x l m = { m with en := true, err := dcE l m.pl } := by unfold stM; rw [if_pos h]
theorem stM_do {F : Int} {x : BitVec 128} {l : List Nat} {m : Mc} (h : dcE l m.pl = 0) (h2 : doE F m (dcI l m.pl) ≠ 0) : stM F x l m = { m with en := true, err := doE F m (dcI l m.pl) } := by unfold stM; rw [if_neg (by simpa using h), if_pos h2]
theorem stM_ok {F : Int} {x : BitVec 128} {l : List Nat} {m : Mc} (h : dcE l m.pl = 0) (h2 : doE F m (dcI l m.pl) = 0) : stM F x l m = { doM F x m (dcI l m.pl) (dcZ l m.pl) with st := m.st + 1 } := by unfold stM; rw [if_neg (by simpa using h), if_neg (by simpa using h2)]
theorem ixE_ok {m : Mc} {n : Int} {U : List (BitVec 32)} (h : ixE m n U = 0) : m.hb = n ∧ rkE U m.hn = 0 := by
  unfold ixE at h
  split at h
  · exact ⟨‹_›, h⟩
  · cases h
theorem rkN_le (U : List (BitVec 32)) (i : Int) (h0 : 0 ≤ i) : (rkN U i : Int) ≤ i + 1 := by
  unfold rkN
  split
  · have := cnt_le U (i.toNat + 1); omega
  · simp; omega
inductive Did (F : Int) (x : BitVec 128) (l : List Nat) (m : Mc) : Prop
  | ext (n : Int) (hd : (dcI l m.pl).op = 1) (hn : (dcI l m.pl).n = n) (h0 : 1 ≤ n) (h1 : n ≤ 24) (hb : m.bt + n ≤ F) (e : stM F x l m = { m with ex := m.ex + 1, bt := m.bt + n, pl := m.pl + 1, hb := n, hn := fdN x m.bt n, st := m.st + 1 })
  | idx (z r : Int) (hd : (dcI l m.pl).op = 2) (hh : m.hb = (dcI l m.pl).n) (hk : rkE (dcI l m.pl).m m.hn = 0) (hr : r = (rkN (dcI l m.pl).m m.hn : Int)) (hz : z = dcZ l m.pl) (h0 : 2 ≤ z) (h1 : m.pl + z ≤ ((l.length / 4 : Nat) : Int)) (hr0 : 0 ≤ r) (hr1 : 0 ≤ m.hn → r ≤ m.hn + 1) (e : stM F x l m = { m with ix := m.ix + 1, pl := m.pl + z + r - 1, hb := 0, hn := 0, st := m.st + 1 })
  | jmp (n : Int) (hd : (dcI l m.pl).op = 3) (hn : (dcI l m.pl).n = n) (h0 : 1 ≤ n) (h1 : n ≤ 16777215) (e : stM F x l m = { m with pl := m.pl + n, hb := 0, hn := 0, st := m.st + 1 })
  | ret (n : Int) (hd : (dcI l m.pl).op = 4) (hn : (dcI l m.pl).n = n) (h0 : 0 ≤ n) (h1 : n ≤ 65535) (e : stM F x l m = { m with en := true, hop := n, st := m.st + 1 })
theorem did {F : Int} {x : BitVec 128} {l : List Nat} {m : Mc} (h : dcE l m.pl = 0) (h2 : doE F m (dcI l m.pl) = 0) : Did F x l m := by
  have D := dcF h
  have e := stM_ok (x := x) h h2
  rcases D.op with o | o | o | o
  · have hx := D.nx (by omega) (by omega)
    unfold doE at h2
    rw [if_pos o] at h2
    have hb : ¬ (dcI l m.pl).n > F - m.bt := fun q => by unfold exE at h2; rw [if_pos q] at h2; cases h2
    refine .ext _ o rfl hx.1 hx.2 (by omega) ?_
    rw [e]; unfold doM; rw [if_pos o]; unfold exM; rw [if_neg hb]
  · unfold doE at h2
    rw [if_neg (by omega), if_pos o] at h2
    have hi := ixE_ok h2
    have hm := D.m2 o
    have hz : dcZ l m.pl = 1 + ((dcI l m.pl).m.length : Int) := by unfold dcZ; rw [if_pos h]
    refine .idx _ _ o hi.1 hi.2 rfl rfl (by omega) (by rw [hz]; omega) (by omega) (fun q => rkN_le _ _ q) ?_
    rw [e]; unfold doM; rw [if_neg (by omega), if_pos o]; unfold ixM; rw [if_pos hi]
  · refine .jmp _ o rfl (dc_n3 h (by omega)) D.n1 ?_
    rw [e]; unfold doM; rw [if_neg (by omega), if_neg (by omega), if_pos o]
  · refine .ret _ o rfl D.n0 (dc_n4 h o) ?_
    rw [e]; unfold doM; rw [if_neg (by omega), if_neg (by omega), if_neg (by omega), if_pos o]
theorem stM_mok {F L : Int} {x : BitVec 128} {l : List Nat} {m : Mc} (hL : L = ((l.length / 4 : Nat) : Int)) (h : MOk F L m) (he : m.en = false) : MOk F L (stM F x l m) := by
  have hg := h.go he
  by_cases h1 : dcE l m.pl = 0
  · have D := dcF h1
    have a1 := D.a1
    rw [← hL] at a1
    by_cases h2 : doE F m (dcI l m.pl) = 0
    · have hs := h.s2 he
      have hp := h.p1
      have p0 := h.p0
      have s0 := h.s0
      have e0 := h.e0
      have i0 := h.i0
      have ei := h.ei
      have b0 := h.b0
      have b1 := h.b1 he
      rcases did (x := x) h1 h2 with ⟨n, -, -, n0, n1, nb, e⟩ | ⟨z, r, -, -, -, hr, hz, z0, z1, r0, r1, e⟩ | ⟨n, -, -, n0, n1, e⟩ | ⟨n, -, -, n0, n1, e⟩
      · rw [e]
        exact ⟨h.f, by dsimp only; omega, by dsimp only; omega, by dsimp only; omega, by dsimp only; omega, fun _ => by dsimp only; omega, by dsimp only; omega, h.i0, by dsimp only; omega, by dsimp only; omega, fun _ => nb, by dsimp only; omega, n1, fdN_lo _ _ _, fdN_hi _ _ _ (by omega) n1, h.o0, h.o1, h.er, h.go⟩
      · have r2 := r1 h.n0
        have h24 := h.hn24
        rw [e]
        rw [← hL] at z1
        exact ⟨h.f, by dsimp only; omega, by dsimp only; omega, by dsimp only; omega, by dsimp only; omega, fun _ => by dsimp only; omega, h.e0, by dsimp only; omega, by dsimp only; omega, h.b0, h.b1, by dsimp only; omega, by dsimp only; omega, by dsimp only; omega, by dsimp only; decide, h.o0, h.o1, h.er, h.go⟩
      · rw [e]
        exact ⟨h.f, by dsimp only; omega, by dsimp only; omega, by dsimp only; omega, by dsimp only; omega, fun _ => by dsimp only; omega, h.e0, h.i0, by dsimp only; omega, h.b0, h.b1, by dsimp only; omega, by dsimp only; omega, by dsimp only; omega, by dsimp only; decide, h.o0, h.o1, h.er, h.go⟩
      · rw [e]
        exact ⟨fun q => (by cases q), h.p0, h.p1, by dsimp only; omega, by dsimp only; omega, fun q => (by cases q), h.e0, h.i0, by dsimp only; omega, h.b0, fun q => (by cases q), h.h0, h.h1, h.n0, h.n1, n0, n1, fun q => absurd hg.1 q, fun q => (by cases q)⟩
    · rw [stM_do h1 h2]
      exact ⟨fun q => (by cases q), h.p0, h.p1, h.s0, h.s1, fun q => (by cases q), h.e0, h.i0, h.ei, h.b0, fun q => (by cases q), h.h0, h.h1, h.n0, h.n1, h.o0, h.o1, fun _ => hg.2, fun q => (by cases q)⟩
  · rw [stM_dc h1]
    exact ⟨fun q => (by cases q), h.p0, h.p1, h.s0, h.s1, fun q => (by cases q), h.e0, h.i0, h.ei, h.b0, fun q => (by cases q), h.h0, h.h1, h.n0, h.n1, h.o0, h.o1, fun _ => hg.2, fun q => (by cases q)⟩
theorem goM_en {F : Int} {x : BitVec 128} {l : List Nat} {m : Mc} (h : m.en = true) : ∀ k, goM F x l k m = m
  | 0 => rfl
  | k + 1 => by unfold goM; rw [if_pos h]
theorem goM_go {F : Int} {x : BitVec 128} {l : List Nat} {m : Mc} (h : m.en = false) (k : Nat) : goM F x l (k + 1) m = goM F x l k (stM F x l m) := by
  rw [goM, if_neg (by rw [h]; decide)]
theorem goM_add (F : Int) (x : BitVec 128) (l : List Nat) : ∀ (j k : Nat) (m : Mc), goM F x l (j + k) m = goM F x l k (goM F x l j m)
  | 0, k, m => by rw [Nat.zero_add]; rfl
  | j + 1, k, m => by
    cases h : m.en with
    | true => rw [goM_en h, goM_en h, goM_en h]
    | false => rw [show j + 1 + k = (j + k) + 1 by omega, goM_go h, goM_go h, goM_add F x l j k]
theorem goM_mok {F L : Int} {x : BitVec 128} {l : List Nat} (hL : L = ((l.length / 4 : Nat) : Int)) : ∀ (k : Nat) (m : Mc), MOk F L m → MOk F L (goM F x l k m)
  | 0, m, h => h
  | k + 1, m, h => by
    cases he : m.en with
    | true => rw [goM_en he]; exact h
    | false => rw [goM_go he]; exact goM_mok hL k _ (stM_mok hL h he)
def mc0 (E : Int) : Mc := if E = 0 then ⟨0, false, 0, 0, 0, 0, 0, 0, 0, 0⟩ else ⟨0, true, 0, E, 0, 0, 0, 0, 0, 0⟩
theorem mc0_ok {F L E : Int} (hL : 0 ≤ L) (hF : E = 0 → F = 32 ∨ F = 128) : MOk F L (mc0 E) := by
  unfold mc0
  split
  · rename_i h
    have hf := hF h
    exact ⟨fun _ => hf, by simp, by dsimp only; omega, by simp, hL, fun _ => by simp, by simp, by simp, by simp, by simp, fun _ => by dsimp only; omega, by simp, by simp, by simp, by simp, by simp, by simp, fun q => by simp at q, fun _ => ⟨rfl, rfl⟩⟩
  · exact ⟨fun q => (by cases q), by simp, by dsimp only; omega, by simp, hL, fun q => (by cases q), by simp, by simp, by simp, by simp, fun q => (by cases q), by simp, by simp, by simp, by simp, by simp, by simp, fun _ => rfl, fun q => (by cases q)⟩
noncomputable def ruM (F : Int) (x : BitVec 128) (l : List Nat) (E : Int) (k : Nat) : Mc := if (goM F x l k (mc0 E)).en = true then goM F x l k (mc0 E) else { goM F x l k (mc0 E) with en := true, err := 29 }
end Go.Proofs.Ytbgoclfifhdonaa
namespace Go.Proofs.Ytbgoclfifhdonaa
open Go.RowKit
set_option linter.unusedSimpArgs false
set_option linter.unusedVariables false

structure RY9 (B : Nat) (F : Int) (vc : Value) (x : BitVec 128) (w : World) (m1 m2 : Mc) (O : World → Prop) (f4 f6 f8 f9 fc : Bool) (X : World) : Prop where
  d0 : fc = false → MV X B F vc x m1
  d1 : fc = true → MV X B F vc x m2
  k : KM B w X
  o : O X
  p1 : fc = true → f9 = true
  p2 : f9 = true → f8 = true
  p3 : f8 = true → f6 = true
  p4 : f6 = true → f4 = true
theorem RY9.nc {B : Nat} {F : Int} {vc : Value} {x : BitVec 128} {w : World} {m1 m2 : Mc} {O : World → Prop} {f6 f8 f9 fc : Bool} {X : World} (h : RY9 B F vc x w m1 m2 O false f6 f8 f9 fc X) : fc = false := by
  cases fc with
  | false => rfl
  | true => cases h.p4 (h.p3 (h.p2 (h.p1 rfl)))
theorem RY9.start {B : Nat} {F : Int} {vc : Value} {x : BitVec 128} {w : World} {m1 m2 : Mc} {O : World → Prop} {X : World} (h : MV X B F vc x m1) (hk : KM B w X) (ho : O X) : RY9 B F vc x w m1 m2 O false false false false false X := ⟨fun _ => h, fun q => (by cases q), hk, ho, fun q => (by cases q), fun q => (by cases q), fun q => (by cases q), fun q => (by cases q)⟩
def DI9 (w : World) (B : Nat) (F : Int) (vc : Value) (x : BitVec 128) (m : Mc) (N : Nat) (o n : Int) (v : Value) (U : List (BitVec 32)) (W : World) : Prop := MV W B F vc x m ∧ KM B w W ∧ W.heap[N]? = some (.cells #[.int .i64 o, .int .i64 n, v] 56) ∧ RwX cU W v U
theorem DI9.below {w W W' : World} {B N : Nat} {F o n : Int} {vc v : Value} {x : BitVec 128} {m : Mc} {U : List (BitVec 32)} (h : DI9 w B F vc x m N o n v U W) (hB : B < w.heap.size) (hb : Below W.heap.size W W') : DI9 w B F vc x m N o n v U W' := ⟨h.1.below hb, h.2.1.below hB hb, (hb.block N (lt_16 h.2.2.1)).trans h.2.2.1, h.2.2.2.below hb⟩
theorem rkE_le (U : List (BitVec 32)) (i : Int) : rkE U i = 0 ∨ rkE U i = 30 := by
  unfold rkE; split <;> simp
set_option maxRecDepth 20000 in
set_option maxHeartbeats 8000000 in
theorem index19 (B : Nat) (F : Int) (vc : Value) (x : BitVec 128) (m : Mc) (o n : Int) (v : Value) (U : List (BitVec 32)) (z : Int) (w : World) (h : MV w B F vc x m) (hU : RwX cU w v U) (hUl : U.length ≤ 524288) (hz : 0 ≤ z ∧ z ≤ 1000000) (hi : 0 ≤ m.ix ∧ m.ix ≤ 4611686018427387904) (hp : 0 ≤ m.pl ∧ m.pl ≤ 4611686018427) (hh : 0 ≤ m.hn ∧ m.hn ≤ 16777216) :
    Calls Try.prog 47 #[.pointer (some ⟨B, 0, none⟩), .agg #[.int .i64 o, .int .i64 n, v], .int .i64 z] w fun r w' => r = .returned (.int .i64 (ixE m n U)) ∧ MV w' B F vc x (ixM m n U z) ∧ KM B w w' := by
  obtain ⟨ao, uc, rfl, -⟩ := id hU
  obtain ⟨Wb, hWb⟩ : ∃ Wb, Wb = w.alloc (.cells #[.int .i64 o, .int .i64 n, .slice ao U.length uc] 56) := ⟨_, rfl⟩
  have q0 := bl1 w (.cells #[.int .i64 o, .int .i64 n, .slice ao U.length uc] 56)
  rw [← hWb] at q0
  have HI : Hid (Wb.heap[w.heap.size]? = some (.cells #[.int .i64 o, .int .i64 n, .slice ao U.length uc] 56)) := by rw [hWb]; exact new_16 _ _
  have HB := hid13 h.lt
  have HD : Hid (DI9 w B F vc x m w.heap.size o n (.slice ao U.length uc) U Wb) := ⟨h.below q0, (KM.refl B w).below HB.out q0, HI.out, hU.below q0⟩
  have HNB : Hid (w.heap.size ≠ B) := by have := HB.out; show _ ≠ _; omega
  have KR : Hid (∀ X, RwX cU X (.slice ao U.length uc) U → Calls Try.prog 57 #[.slice ao U.length uc, .int .i64 m.hn] X fun e w' => e = .returned (.tuple #[.int .i64 ((rkN U m.hn : Nat) : Int), .int .i64 (rkE U m.hn)]) ∧ Below X.heap.size X w') := hid13 (fun X hX => rank_any _ U m.hn X hX (by omega) (by omega) (by omega))
  have hrk := rkN_le U m.hn hh.1
  have hre := rkE_le U m.hn
  have HX : Hid (ixE m n U = (if m.hb = n then rkE U m.hn else 25) ∧ ixM m n U z = if m.hb = n ∧ rkE U m.hn = 0 then { m with ix := m.ix + 1, pl := m.pl + z + (rkN U m.hn : Int) - 1, hb := 0, hn := 0 } else m) := ⟨rfl, rfl⟩
  obtain ⟨R0, hR0⟩ : ∃ R0, R0 = ((rkN U m.hn : Nat) : Int) := ⟨_, rfl⟩
  obtain ⟨E0, hE0⟩ : ∃ E0, E0 = rkE U m.hn := ⟨_, rfl⟩
  rw [← hR0, ← hE0] at HX KR
  rw [← hR0] at hrk
  rw [← hE0] at hre
  have hR00 : 0 ≤ R0 := by omega
  have mi : IntKind.i64.wrap (m.ix + 1) = m.ix + 1 := by rw [IntKind.wrap_i64]; omega
  have ma : IntKind.i64.wrap (m.pl + z) = m.pl + z := by rw [IntKind.wrap_i64]; omega
  have mb : IntKind.i64.wrap (m.pl + z + R0) = m.pl + z + R0 := by rw [IntKind.wrap_i64]; omega
  have mc : IntKind.i64.wrap (m.pl + z + R0 - 1) = m.pl + z + R0 - 1 := by rw [IntKind.wrap_i64]; omega
  have c12 := (h.below q0).c12
  have c1 : Wb.cell? ⟨w.heap.size, 1, none⟩ = some (.int .i64 n) := at_16 HI.out 1 _ rfl
  clear h hU hUl hz hi hp hh hrk hR0 hE0 q0 hR00
  by_cases hq : m.hb = n
  · subst hq
    have HX2 : Hid (ixE m m.hb U = E0 ∧ ixM m m.hb U z = if E0 = 0 then { m with ix := m.ix + 1, pl := m.pl + z + R0 - 1, hb := 0, hn := 0 } else m) := by
      refine ⟨?_, ?_⟩
      · rw [HX.out.1, if_pos rfl]
      · rw [HX.out.2]
        by_cases he : E0 = 0
        · rw [if_pos ⟨rfl, he⟩, if_pos he]
        · rw [if_neg (fun q => he q.2), if_neg he]
    clear HX
    go_enter Try.func47, Try.ntmps47
    go_wp2_with fail
    rw [← hWb]
    clear hWb
    go_quiet (fail)
    go_wp2_with fail
    clear c12 c1
    refine qw_region (C := DI9 w B F vc x m w.heap.size o m.hb (.slice ao U.length uc) U) (by kernel_rfl) (by kernel_rfl) (HD.out.below HB.out (below_drewN (Below.refl _ _) _).drew) ?_
    refine qw_run (v := .pointer (some ⟨w.heap.size, 2, none⟩)) (by rfl) ?_ ?_
    · (intro w9 hC; clear hC; go_simp; first | done | (simp; done) | (simp [*]; done) | omega | (simp; omega) | (rw [IntKind.wrap_i64]; omega) | (intro hx; omega) | rfl)
    simp only [Act.put, List.setIfInBounds_toArray, List.set_cons_zero, List.set_cons_succ]
    refine qw_run (v := .slice ao U.length uc) (by rfl) ?_ ?_
    · (intro w9 hC; have z2 := at_16 hC.2.2.1 2 _ rfl; clear hC; go_simp; first | done | (simp; done) | (simp [*]; done) | omega | (simp; omega) | (rw [IntKind.wrap_i64]; omega) | (intro hx; omega) | rfl)
    simp only [Act.put, List.setIfInBounds_toArray, List.set_cons_zero, List.set_cons_succ]
    refine qw_run (v := .pointer (some ⟨B, 0, none⟩)) (by rfl) ?_ ?_
    · (intro w9 hC; clear hC; go_simp; first | done | (simp; done) | (simp [*]; done) | omega | (simp; omega) | (rw [IntKind.wrap_i64]; omega) | (intro hx; omega) | rfl)
    simp only [Act.put, List.setIfInBounds_toArray, List.set_cons_zero, List.set_cons_succ]
    refine qw_run (v := .pointer (some ⟨B, 0, none⟩)) (by rfl) ?_ ?_
    · (intro w9 hC; clear hC; go_simp; first | done | (simp; done) | (simp [*]; done) | omega | (simp; omega) | (rw [IntKind.wrap_i64]; omega) | (intro hx; omega) | rfl)
    simp only [Act.put, List.setIfInBounds_toArray, List.set_cons_zero, List.set_cons_succ]
    refine qw_run (v := .pointer (some ⟨B, 12, none⟩)) (by rfl) ?_ ?_
    · (intro w9 hC; clear hC; go_simp; first | done | (simp; done) | (simp [*]; done) | omega | (simp; omega) | (rw [IntKind.wrap_i64]; omega) | (intro hx; omega) | rfl)
    simp only [Act.put, List.setIfInBounds_toArray, List.set_cons_zero, List.set_cons_succ]
    refine qw_run (v := .pointer (some ⟨B, 13, none⟩)) (by rfl) ?_ ?_
    · (intro w9 hC; clear hC; go_simp; first | done | (simp; done) | (simp [*]; done) | omega | (simp; omega) | (rw [IntKind.wrap_i64]; omega) | (intro hx; omega) | rfl)
    simp only [Act.put, List.setIfInBounds_toArray, List.set_cons_zero, List.set_cons_succ]
    refine qw_run (v := .int .i64 m.hn) (by rfl) ?_ ?_
    · (intro w9 hC; have k13 := hC.1.c13; clear hC; go_simp; first | done | (simp; done) | (simp [*]; done) | omega | (simp; omega) | (rw [IntKind.wrap_i64]; omega) | (intro hx; omega) | rfl)
    simp only [Act.put, List.setIfInBounds_toArray, List.set_cons_zero, List.set_cons_succ]
    refine qw_call (v := .tuple #[.int .i64 R0, .int .i64 E0]) (f := 57) (args := #[.slice ao U.length uc, .int .i64 m.hn]) (by rfl) ?_ ?_ ?_
    · (intro w9 hC; clear hC; go_simp; first | done | (simp; done) | rfl)
    · exact fun w9 hC => (KR.out w9 hC.2.2.2).mono fun e w' ⟨he, hb⟩ => ⟨he, hC.below HB.out hb⟩
    simp only [Act.put, List.setIfInBounds_toArray, List.set_cons_zero, List.set_cons_succ]
    refine qw_run (v := .tuple #[.int .i64 R0, .int .i64 E0]) (by rfl) ?_ ?_
    · (intro w9 hC; clear hC; go_simp; first | done | (simp; done) | (simp [*]; done) | omega | (simp; omega) | (rw [IntKind.wrap_i64]; omega) | (intro hx; omega) | rfl)
    simp only [Act.put, List.setIfInBounds_toArray, List.set_cons_zero, List.set_cons_succ]
    refine qw_run (v := .int .i64 R0) (by rfl) ?_ ?_
    · (intro w9 hC; clear hC; go_simp; first | done | (simp; done) | (simp [*]; done) | omega | (simp; omega) | (rw [IntKind.wrap_i64]; omega) | (intro hx; omega) | rfl)
    simp only [Act.put, List.setIfInBounds_toArray, List.set_cons_zero, List.set_cons_succ]
    refine qw_run (v := .int .i64 E0) (by rfl) ?_ ?_
    · (intro w9 hC; clear hC; go_simp; first | done | (simp; done) | (simp [*]; done) | omega | (simp; omega) | (rw [IntKind.wrap_i64]; omega) | (intro hx; omega) | rfl)
    simp only [Act.put, List.setIfInBounds_toArray, List.set_cons_zero, List.set_cons_succ]
    refine qw_run (v := .int .i64 R0) (by rfl) ?_ ?_
    · (intro w9 hC; clear hC; go_simp; first | done | (simp; done) | (simp [*]; done) | omega | (simp; omega) | (rw [IntKind.wrap_i64]; omega) | (intro hx; omega) | rfl)
    simp only [Act.put, List.setIfInBounds_toArray, List.set_cons_zero, List.set_cons_succ]
    refine qw_run (v := .int .i64 E0) (by rfl) ?_ ?_
    · (intro w9 hC; clear hC; go_simp; first | done | (simp; done) | (simp [*]; done) | omega | (simp; omega) | (rw [IntKind.wrap_i64]; omega) | (intro hx; omega) | rfl)
    simp only [Act.put, List.setIfInBounds_toArray, List.set_cons_zero, List.set_cons_succ]
    refine qw_nil ?_
    intro V hV
    rcases hre with he | he
    · subst he
      rw [if_pos rfl] at HX2
      have g10 := hV.1.c10
      have r10 := hV.1.fr 10
      have HVa := hid13 hV
      have k4 := hV.1.c4
      clear HD KR hV
      go_wp2_with fail
      refine (moveTo19 B F vc x { m with ix := m.ix + 1 } (m.pl + z + R0 - 1) 0 0 _ (HVa.out.1.s10 _)).mono ?_
      rintro e X ⟨rfl, h1, h2⟩
      have HXq := hid13 (And.intro h1 ((HVa.out.2.1.set (o := 10) (.int .i64 (m.ix + 1))).trans h2))
      clear h1 h2 HVa k4 g10 r10 mi ma mb mc
      go_wp2
      go_ret
      rw [HX2.out.1, HX2.out.2]
      exact ⟨rfl, HXq.out.1, HXq.out.2⟩
    · subst he
      rw [if_neg (by decide)] at HX2
      have HVa := hid13 (And.intro hV.1 hV.2.1)
      clear hV HD KR
      go_wp2
      go_ret
      rw [HX2.out.1, HX2.out.2]
      exact ⟨rfl, HVa.out.1, HVa.out.2⟩
  · have HX2 : Hid (ixE m n U = 25 ∧ ixM m n U z = m) := by
      refine ⟨?_, ?_⟩
      · rw [HX.out.1, if_neg hq]
      · rw [HX.out.2, if_neg (fun q => hq q.1)]
    clear HX
    go_enter Try.func47, Try.ntmps47
    go_wp2_with fail
    rw [← hWb]
    clear hWb
    go_quiet (fail)
    go_wp2
    go_ret
    rw [HX2.out.1, HX2.out.2]
    exact ⟨rfl, HD.out.1.below (below_drewN (Below.refl _ _) _), HD.out.2.1.below HB.out (below_drewN (Below.refl _ _) _)⟩
theorem doM_err {F : Int} {x : BitVec 128} {m : Mc} {i : Ins} {z : Int} (h : doE F m i ≠ 0) : doM F x m i z = m := by
  unfold doE at h
  unfold doM
  split at h
  · rename_i ho
    rw [if_pos ho]
    unfold exE at h
    unfold exM
    split at h
    · rename_i q; rw [if_pos q]
    · exact absurd rfl h
  · rename_i ho
    rw [if_neg ho]
    split at h
    · rename_i h2
      rw [if_pos h2]
      unfold ixE at h
      unfold ixM
      rw [if_neg]
      rintro ⟨a, b⟩
      rw [if_pos a] at h
      exact h b
    · exact absurd rfl h
set_option maxRecDepth 20000 in
set_option maxHeartbeats 8000000 in
theorem do19 (B : Nat) (F L : Int) (vc : Value) (x : BitVec 128) (m : Mc) (o n : Int) (v : Value) (U : List (BitVec 32)) (z : Int) (w : World) (h : MV w B F vc x m) (hU : RwX cU w v U) (hUl : U.length ≤ 524288) (hz : 0 ≤ z ∧ z ≤ 1000000) (ho : o = 1 ∨ o = 2 ∨ o = 3 ∨ o = 4) (hn : 0 ≤ n ∧ n ≤ 16777215) (hn1 : o = 1 → n ≤ 24) (hm : MOk F L m) (hen : m.en = false) (hL : L ≤ 4000000000000) :
    Calls Try.prog 31 #[.pointer (some ⟨B, 0, none⟩), .agg #[.int .i64 o, .int .i64 n, v], .int .i64 z] w fun r w' => r = .returned (.int .i64 (doE F m ⟨o, n, U⟩)) ∧ MV w' B F vc x (doM F x m ⟨o, n, U⟩ z) ∧ KM B w w' := by
  obtain ⟨ao, uc, rfl, -⟩ := id hU
  obtain ⟨Wb, hWb⟩ : ∃ Wb, Wb = w.alloc (.cells #[.int .i64 o, .int .i64 n, .slice ao U.length uc] 56) := ⟨_, rfl⟩
  have q0 := bl1 w (.cells #[.int .i64 o, .int .i64 n, .slice ao U.length uc] 56)
  rw [← hWb] at q0
  have HI : Hid (Wb.heap[w.heap.size]? = some (.cells #[.int .i64 o, .int .i64 n, .slice ao U.length uc] 56)) := by rw [hWb]; exact new_16 _ _
  have HB := hid13 h.lt
  have HB2 : Hid (B < Wb.heap.size) := Nat.lt_of_lt_of_le h.lt q0.size
  have HD : Hid (DI9 w B F vc x m w.heap.size o n (.slice ao U.length uc) U Wb) := ⟨h.below q0, (KM.refl B w).below HB.out q0, HI.out, hU.below q0⟩
  have HNB : Hid (w.heap.size ≠ B) := by have := HB.out; show _ ≠ _; omega
  have hf := hm.f hen
  have b1 := hm.b1 hen
  have hs1 := hm.s1
  have hei := hm.ei
  have he0 := hm.e0
  have hi0 := hm.i0
  have hp0 := hm.p0
  have hp1 := hm.p1
  have h24 := hm.hn24
  have hn00 := hm.n0
  have c0 : Wb.cell? ⟨w.heap.size, 0, none⟩ = some (.int .i64 o) := at_16 HI.out 0 _ rfl
  have c1 : Wb.cell? ⟨w.heap.size, 1, none⟩ = some (.int .i64 n) := at_16 HI.out 1 _ rfl
  have c2 : Wb.cell? ⟨w.heap.size, 2, none⟩ = some (.slice ao U.length uc) := at_16 HI.out 2 _ rfl
  rcases ho with rfl | rfl | rfl | rfl
  · have K := fun W hW => extract19 B F vc x m n W hW (by omega) hm.b0 b1 hn.1 (hn1 rfl) (by omega) (by omega)
    clear h hU hUl hz hn hn1 hm hen hL hf b1 hs1 hei he0 hi0 hp0 hp1 h24 hn00 q0
    go_enter Try.func31, Try.ntmps31
    go_wp2_with fail
    rw [← hWb]
    clear hWb
    refine (K _ HD.out.1).mono ?_
    rintro r X ⟨rfl, h1, h2⟩
    have HX := hid13 (And.intro h1 (HD.out.2.1.trans h2))
    clear K h1 h2 c0 c1 c2
    go_wp2
    go_ret
    exact ⟨rfl, HX.out.1, HX.out.2⟩
  · have K := fun W hW hR => index19 B F vc x m 2 n (.slice ao U.length uc) U z W hW hR hUl hz (by omega) (by omega) (by omega)
    clear h hU hUl hz hn hn1 hm hen hL hf b1 hs1 hei he0 hi0 hp0 hp1 h24 hn00 q0
    go_enter Try.func31, Try.ntmps31
    go_wp2_with fail
    rw [← hWb]
    clear hWb
    refine (K _ HD.out.1 HD.out.2.2.2).mono ?_
    rintro r X ⟨rfl, h1, h2⟩
    have HX := hid13 (And.intro h1 (HD.out.2.1.trans h2))
    clear K h1 h2 c0 c1 c2
    go_wp2
    go_ret
    exact ⟨rfl, HX.out.1, HX.out.2⟩
  · have ma : IntKind.i64.wrap (m.pl + n) = m.pl + n := by rw [IntKind.wrap_i64]; omega
    have HX2 : Hid (doE F m ⟨3, n, U⟩ = 0 ∧ doM F x m ⟨3, n, U⟩ z = { m with pl := m.pl + n, hb := 0, hn := 0 }) := ⟨rfl, rfl⟩
    clear h hU hUl hz hn hn1 hm hen hL hf b1 hs1 hei he0 hi0 hp0 hp1 h24 hn00 q0
    have HV : Hid (MV Wb B F vc x m ∧ KM B w Wb) := ⟨HD.out.1, HD.out.2.1⟩
    go_enter Try.func31, Try.ntmps31
    go_wp2_with fail
    rw [← hWb]
    clear hWb
    go_wp2_with fail
    clear c0 c1 c2
    refine gh_region (γ := Unit) (qpOk 10 10 (by decide) (fun N => by kernel_rfl) (by kernel_rfl) (by kernel_rfl) (by kernel_rfl) (by kernel_rfl)) (by kernel_rfl) (by kernel_rfl) [some 23, some 24, some 25, some 26, some 27, some 28, some 29, some 30, some 31, some 32] (fun g => [.pointer (some ⟨B, 0, none⟩), .pointer (some ⟨B, 0, none⟩), .pointer (some ⟨B, 0, none⟩), .pointer (some ⟨B, 4, none⟩), .int .i64 m.pl, .pointer (some ⟨w.heap.size, 1, none⟩), .int .i64 n, .int .i64 (m.pl + n), .agg #[.int .i64 0, .int .i64 0], .tuple #[]]) (by kernel_rfl) (by simp) (fun lp g X => RY9 B F vc x w m { m with pl := m.pl + n, hb := 0, hn := 0 } (fun X => X.heap[w.heap.size]? = some (.cells #[.int .i64 3, .int .i64 n, .slice ao U.length uc] 56)) (lp.getD 4 false) (lp.getD 7 false) (lp.getD 7 false) (lp.getD 7 false) (lp.getD 9 false) X) () (RY9.start (HV.out.1.below (Below.refl _ _).drew) (HV.out.2.below HB.out (Below.refl _ _).drew) (((Below.refl _ _).drew.block _ (lt_16 HI.out)).trans HI.out)) ?step9 ?fin9
    case step9 =>
      intro q o lp g w' a' ho hsz hun hdep hR hS K Q' hK
      have hfl : ∀ j, j ≠ q → (lp.setIfInBounds q true).getD j false = lp.getD j false := fun j hj => by rw [Array.getD_eq_getD_getElem?, Array.getD_eq_getD_getElem?, Array.getElem?_setIfInBounds_ne (by omega)]
      have hq : q < 10 := (List.getElem?_eq_some_iff.mp ho).1
      match q, ho, hun, hdep, hK, hfl, hq with
      | 0, ho, hun, hdep, hK, hfl, _ =>
        obtain rfl := Option.some.inj ho
        have o0 : a'.tmps[0]? = some (.pointer (some ⟨B, 0, none⟩)) := (hS.old14 0 (by simp)).trans rfl
        have hK' := hK g w' (fun _ _ _ _ _ _ => rfl) (by rw [hfl 4 (by decide), hfl 7 (by decide), hfl 9 (by decide)]; exact hR) (.pointer (some ⟨B, 0, none⟩)) (by simp only [valO, Option.bind_some]; (try simp only [putAll, Act.put, List.setIfInBounds_toArray, List.set_cons_zero, List.set_cons_succ]); (try rfl))
        clear hS hdep hR
        refine gh_quiet14 (v := .pointer (some ⟨B, 0, none⟩)) ?_ ?_
        · (simp only [execOp, Act.eval, o0]; go_simp; first | done | (simp; done) | (simp [*]; done) | omega | (rw [IntKind.wrap_i64]; omega))
        · exact hK'
      | 1, ho, hun, hdep, hK, hfl, _ =>
        obtain rfl := Option.some.inj ho
        have o0 : a'.tmps[0]? = some (.pointer (some ⟨B, 0, none⟩)) := (hS.old14 0 (by simp)).trans rfl
        have hK' := hK g w' (fun _ _ _ _ _ _ => rfl) (by rw [hfl 4 (by decide), hfl 7 (by decide), hfl 9 (by decide)]; exact hR) (.pointer (some ⟨B, 0, none⟩)) (by simp only [valO, Option.bind_some]; (try simp only [putAll, Act.put, List.setIfInBounds_toArray, List.set_cons_zero, List.set_cons_succ]); (try rfl))
        clear hS hdep hR
        refine gh_quiet14 (v := .pointer (some ⟨B, 0, none⟩)) ?_ ?_
        · (simp only [execOp, Act.eval, o0]; go_simp; first | done | (simp; done) | (simp [*]; done) | omega | (rw [IntKind.wrap_i64]; omega))
        · exact hK'
      | 2, ho, hun, hdep, hK, hfl, _ =>
        obtain rfl := Option.some.inj ho
        have d1 : lp.getD 1 false = true := hdep { on := 1, ground := .data } (by simp) rfl
        have e24 : a'.tmps[24]? = some (.pointer (some ⟨B, 0, none⟩)) := (hS.don 1 _ 24 rfl d1 rfl).trans (by simp only [putAll, Act.put, List.setIfInBounds_toArray, List.set_cons_zero, List.set_cons_succ]; rfl)
        have hK' := hK g w' (fun _ _ _ _ _ _ => rfl) (by rw [hfl 4 (by decide), hfl 7 (by decide), hfl 9 (by decide)]; exact hR) (.pointer (some ⟨B, 0, none⟩)) (by simp only [valO, Option.bind_some]; (try simp only [putAll, Act.put, List.setIfInBounds_toArray, List.set_cons_zero, List.set_cons_succ]); (try rfl))
        clear hS hdep hR
        refine gh_quiet14 (v := .pointer (some ⟨B, 0, none⟩)) ?_ ?_
        · (simp only [execOp, Act.eval, e24]; go_simp; first | done | (simp; done) | (simp [*]; done) | omega | (rw [IntKind.wrap_i64]; omega))
        · exact hK'
      | 3, ho, hun, hdep, hK, hfl, _ =>
        obtain rfl := Option.some.inj ho
        have d2 : lp.getD 2 false = true := hdep { on := 2, ground := .data } (by simp) rfl
        have e25 : a'.tmps[25]? = some (.pointer (some ⟨B, 0, none⟩)) := (hS.don 2 _ 25 rfl d2 rfl).trans (by simp only [putAll, Act.put, List.setIfInBounds_toArray, List.set_cons_zero, List.set_cons_succ]; rfl)
        have hK' := hK g w' (fun _ _ _ _ _ _ => rfl) (by rw [hfl 4 (by decide), hfl 7 (by decide), hfl 9 (by decide)]; exact hR) (.pointer (some ⟨B, 4, none⟩)) (by simp only [valO, Option.bind_some]; (try simp only [putAll, Act.put, List.setIfInBounds_toArray, List.set_cons_zero, List.set_cons_succ]); (try rfl))
        clear hS hdep hR
        refine gh_quiet14 (v := .pointer (some ⟨B, 4, none⟩)) ?_ ?_
        · (simp only [execOp, Act.eval, e25]; go_simp; first | done | (simp; done) | (simp [*]; done) | omega | (rw [IntKind.wrap_i64]; omega))
        · exact hK'
      | 4, ho, hun, hdep, hK, hfl, _ =>
        obtain rfl := Option.some.inj ho
        have d3 : lp.getD 3 false = true := hdep { on := 3, ground := .data } (by simp) rfl
        have e26 : a'.tmps[26]? = some (.pointer (some ⟨B, 4, none⟩)) := (hS.don 3 _ 26 rfl d3 rfl).trans (by simp only [putAll, Act.put, List.setIfInBounds_toArray, List.set_cons_zero, List.set_cons_succ]; rfl)
        have c4 := hR; rw [hun] at c4; have k4 := (hR.d0 c4.nc).c4; clear c4
        have hK' := hK g w' (fun _ _ _ _ _ _ => rfl) (by rw [hfl 7 (by decide), hfl 9 (by decide), getD_set_same (by rw [hsz]; decide)]; exact ⟨hR.d0, hR.d1, hR.k, hR.o, hR.p1, hR.p2, hR.p3, fun _ => rfl⟩) (.int .i64 m.pl) (by simp only [valO, Option.bind_some]; (try simp only [putAll, Act.put, List.setIfInBounds_toArray, List.set_cons_zero, List.set_cons_succ]); (try rfl))
        clear hS hdep hR
        refine gh_quiet14 (v := .int .i64 m.pl) ?_ ?_
        · (simp only [execOp, Act.eval, e26]; go_simp; first | done | (simp; done) | (simp [*]; done) | omega | (rw [IntKind.wrap_i64]; omega))
        · exact hK'
      | 5, ho, hun, hdep, hK, hfl, _ =>
        obtain rfl := Option.some.inj ho
        have o4 : a'.tmps[4]? = some (.pointer (some ⟨w.heap.size, 0, none⟩)) := (hS.old14 4 (by simp)).trans rfl
        have hK' := hK g w' (fun _ _ _ _ _ _ => rfl) (by rw [hfl 4 (by decide), hfl 7 (by decide), hfl 9 (by decide)]; exact hR) (.pointer (some ⟨w.heap.size, 1, none⟩)) (by simp only [valO, Option.bind_some]; (try simp only [putAll, Act.put, List.setIfInBounds_toArray, List.set_cons_zero, List.set_cons_succ]); (try rfl))
        clear hS hdep hR
        refine gh_quiet14 (v := .pointer (some ⟨w.heap.size, 1, none⟩)) ?_ ?_
        · (simp only [execOp, Act.eval, o4]; go_simp; first | done | (simp; done) | (simp [*]; done) | omega | (rw [IntKind.wrap_i64]; omega))
        · exact hK'
      | 6, ho, hun, hdep, hK, hfl, _ =>
        obtain rfl := Option.some.inj ho
        have d5 : lp.getD 5 false = true := hdep { on := 5, ground := .data } (by simp) rfl
        have e28 : a'.tmps[28]? = some (.pointer (some ⟨w.heap.size, 1, none⟩)) := (hS.don 5 _ 28 rfl d5 rfl).trans (by simp only [putAll, Act.put, List.setIfInBounds_toArray, List.set_cons_zero, List.set_cons_succ]; rfl)
        have z1 := at_16 hR.o 1 _ rfl
        have hK' := hK g w' (fun _ _ _ _ _ _ => rfl) (by rw [hfl 4 (by decide), hfl 7 (by decide), hfl 9 (by decide)]; exact hR) (.int .i64 n) (by simp only [valO, Option.bind_some]; (try simp only [putAll, Act.put, List.setIfInBounds_toArray, List.set_cons_zero, List.set_cons_succ]); (try rfl))
        clear hS hdep hR
        refine gh_quiet14 (v := .int .i64 n) ?_ ?_
        · (simp only [execOp, Act.eval, e28]; go_simp; first | done | (simp; done) | (simp [*]; done) | omega | (rw [IntKind.wrap_i64]; omega))
        · exact hK'
      | 7, ho, hun, hdep, hK, hfl, _ =>
        obtain rfl := Option.some.inj ho
        have d4 : lp.getD 4 false = true := hdep { on := 4, ground := .data } (by simp) rfl
        have e27 : a'.tmps[27]? = some (.int .i64 m.pl) := (hS.don 4 _ 27 rfl d4 rfl).trans (by simp only [putAll, Act.put, List.setIfInBounds_toArray, List.set_cons_zero, List.set_cons_succ]; rfl)
        have d6 : lp.getD 6 false = true := hdep { on := 6, ground := .data } (by simp) rfl
        have e29 : a'.tmps[29]? = some (.int .i64 n) := (hS.don 6 _ 29 rfl d6 rfl).trans (by simp only [putAll, Act.put, List.setIfInBounds_toArray, List.set_cons_zero, List.set_cons_succ]; rfl)
        have hK' := hK g w' (fun _ _ _ _ _ _ => rfl) (by rw [hfl 4 (by decide), hfl 9 (by decide), getD_set_same (by rw [hsz]; decide)]; exact ⟨hR.d0, hR.d1, hR.k, hR.o, fun _ => rfl, fun _ => rfl, fun _ => rfl, fun _ => d4⟩) (.int .i64 (m.pl + n)) (by simp only [valO, Option.bind_some]; (try simp only [putAll, Act.put, List.setIfInBounds_toArray, List.set_cons_zero, List.set_cons_succ]); (try rfl))
        clear hS hdep hR
        refine gh_quiet14 (v := .int .i64 (m.pl + n)) ?_ ?_
        · (simp only [execOp, Act.eval, e27, e29]; go_simp; first | done | (simp; done) | (simp [*]; done) | omega | (rw [IntKind.wrap_i64]; omega))
        · exact hK'
      | 8, ho, hun, hdep, hK, hfl, _ =>
        obtain rfl := Option.some.inj ho
        have hK' := hK g w' (fun _ _ _ _ _ _ => rfl) (by rw [hfl 4 (by decide), hfl 7 (by decide), hfl 9 (by decide)]; exact hR) (.agg #[.int .i64 0, .int .i64 0]) (by simp only [valO, Option.bind_some]; (try simp only [putAll, Act.put, List.setIfInBounds_toArray, List.set_cons_zero, List.set_cons_succ]); (try rfl))
        clear hS hdep hR
        refine gh_quiet14 (v := .agg #[.int .i64 0, .int .i64 0]) ?_ ?_
        · (simp only [execOp, Act.eval]; go_simp; first | done | (simp; done) | (simp [*]; done) | omega | (rw [IntKind.wrap_i64]; omega))
        · exact hK'
      | 9, ho, hun, hdep, hK, hfl, _ =>
        obtain rfl := Option.some.inj ho
        have d0 : lp.getD 0 false = true := hdep { on := 0, ground := .data } (by simp) rfl
        have e23 : a'.tmps[23]? = some (.pointer (some ⟨B, 0, none⟩)) := (hS.don 0 _ 23 rfl d0 rfl).trans (by simp only [putAll, Act.put, List.setIfInBounds_toArray, List.set_cons_zero, List.set_cons_succ]; rfl)
        have d7 : lp.getD 7 false = true := hdep { on := 7, ground := .data } (by simp) rfl
        have e30 : a'.tmps[30]? = some (.int .i64 (m.pl + n)) := (hS.don 7 _ 30 rfl d7 rfl).trans (by simp only [putAll, Act.put, List.setIfInBounds_toArray, List.set_cons_zero, List.set_cons_succ]; rfl)
        have d8 : lp.getD 8 false = true := hdep { on := 8, ground := .data } (by simp) rfl
        have e31 : a'.tmps[31]? = some (.agg #[.int .i64 0, .int .i64 0]) := (hS.don 8 _ 31 rfl d8 rfl).trans (by simp only [putAll, Act.put, List.setIfInBounds_toArray, List.set_cons_zero, List.set_cons_succ]; rfl)
        have KC := moveTo19 B F vc x _ (m.pl + n) 0 0 w' (hR.d0 hun)
        clear hdep
        unfold Oper.wp
        simp only [execOp, Act.eval, Array.getD_eq_getD_getElem?]
        simp [go_sem, e23, e30, e31, Oper.upon]
        refine KC.mono ?_
        rintro e W2 ⟨rfl, hb⟩
        exact hK g W2 (fun _ _ _ _ _ _ => rfl) (by rw [hfl 4 (by decide), hfl 7 (by decide), getD_set_same (by rw [hsz]; decide)]; exact ⟨fun q => (by cases q), fun _ => hb.1, hR.k.trans hb.2, (hb.2.ot.2 _ (lt_16 hR.o) HNB.out).trans hR.o, fun _ => d7, hR.p2, hR.p3, hR.p4⟩) _ (by simp only [valO, Option.bind_some]; simp only [putAll, Act.put, List.setIfInBounds_toArray, List.set_cons_zero, List.set_cons_succ]; rfl)
      | n + 10, ho, hun, hdep, hK, hfl, hq => exact absurd hq (by omega)
    case fin9 =>
      intro g X hX
      clear HV
      have HXq : Hid (MV X B F vc x { m with pl := m.pl + n, hb := 0, hn := 0 } ∧ KM B w X) := ⟨hX.d1 rfl, hX.k⟩
      clear hX
      simp only [putAll, Act.put, List.setIfInBounds_toArray, List.set_cons_zero, List.set_cons_succ]
      go_wp2
      go_ret
      rw [HX2.out.1, HX2.out.2]
      exact HXq.out.elim (fun a b => ⟨rfl, a, b⟩)
  · have g4 := HD.out.1.fr 5
    have g6 := HD.out.1.fr 6
    have k5 := HD.out.1.c5
    have k6 := HD.out.1.c6
    clear h hU hUl hz hn hn1 hm hen hL hf b1 hs1 hei he0 hi0 hp0 hp1 h24 hn00 q0
    have hne := HNB.out
    have hne2 : ¬ B = w.heap.size := fun q => hne q.symm
    subst hWb
    clear HI
    go_enter Try.func31, Try.ntmps31
    go_wp2
    go_ret
    exact ⟨rfl, (HD.out.1.s5 true).s6 n, (HD.out.2.1.set _).set _⟩
end Go.Proofs.Ytbgoclfifhdonaa
namespace Go.Proofs.Ytbgoclfifhdonaa
open Go.RowKit
set_option linter.unusedSimpArgs false
set_option linter.unusedVariables false
attribute [local go_sem] Oper.semAt_some

theorem jump_ret15 {l : Nat} {J : Act → World → Prop} {Q : Exit → Act → World → Prop} {a : Act} {w : World} (h : Q .ret a w) : Exit.jump l J Q .ret a w := h
theorem then_more15 {P : Program} {A : Code} {K K' : Act → World → Prop} {Q : Exit → Act → World → Prop} {a : Act} {w : World} (h : A.wp P (Exit.then K (fun _ _ _ => False)) a w) (hk : ∀ a w, K a w → K' a w) : A.wp P (Exit.then K' Q) a w := fun b k cs => by
  obtain ⟨e, a', w', h, arr⟩ := h b k cs
  refine ⟨e, a', w', ?_, arr⟩
  cases e with
  | normal => exact hk _ _ h
  | _ => exact h.elim
end Go.Proofs.Ytbgoclfifhdonaa
namespace Go.Proofs.Ytbgoclfifhdonaa
open Go.RowKit
set_option linter.unusedSimpArgs false
set_option linter.unusedVariables false

theorem own_typed18 {W : World} {base e size n : Nat} {v : Value} {xs : List Value} (h : W.ownsRow base e size v n xs) (z : Nat) (hz : v.ownBlock = some z) : ∃ cs, W.heap[z]? = some (.cells cs e) := by
  rcases h.2 with ⟨e0, _⟩ | ⟨g, cap, cur, e0, hb, hg, rest⟩
  · rw [e0] at hz; cases hz
  · rw [e0] at hz
    have q : g = z := by simpa [Value.ownBlock] using hz
    subst q
    exact ⟨_, hg⟩
theorem own_not18 {W : World} {base e size n : Nat} {v : Value} {xs : List Value} (h : W.ownsRow base e size v n xs) {z : Nat} {cs : Array Value} {T : TypeId} {fr : Nat × Nat} (hz : W.heap[z]? = some (.cells cs T fr)) (he : e ≠ T) : v.ownBlock ≠ some z := by
  intro q
  obtain ⟨cs', h2⟩ := own_typed18 h z q
  rw [h2] at hz
  injection hz with hz
  injection hz with _ h2 _
  exact he h2
theorem own_keep18 {W W' : World} {base e size n : Nat} {v : Value} {xs : List Value} (h : W.ownsRow base e size v n xs) (he : ∀ g, v.ownBlock = some g → W'.heap[g]? = W.heap[g]?) : W'.ownsRow base e size v n xs := by
  refine ⟨h.1, ?_⟩
  rcases h.2 with hn | ⟨g, cap, cur, rfl, hb, hg, rest⟩
  · exact .inl hn
  · exact .inr ⟨g, cap, cur, rfl, hb, by rw [he g rfl]; exact hg, rest⟩
theorem own_put3 {W : World} {base e size n B : Nat} {v : Value} {xs : List Value} (h : W.ownsRow base e size v n xs) (hv : v.ownBlock ≠ some B) (u0 u1 u2 : Value) : (((W.setCell ⟨B, 0, none⟩ u0).setCell ⟨B, 1, none⟩ u1).setCell ⟨B, 2, none⟩ u2).ownsRow base e size v n xs :=
  own_keep18 h (fun g e => (far_16 (fun q => hv (by rw [← q]; exact e))).trans ((far_16 (fun q => hv (by rw [← q]; exact e))).trans (far_16 (fun q => hv (by rw [← q]; exact e)))))
theorem gh_same18 {x y : Array Value} {d e f s : Nat} (h : ((x.toList.set e undef).set f undef).eraseIdx d = ((y.toList.set e undef).set f undef).eraseIdx d) (hs : s ≠ d) (ht : s ≠ e) (hu : s ≠ f) : x[s]? = y[s]? := by
  have := erase_get _ _ d s h hs
  rw [List.getElem?_set_ne (Ne.symm hu), List.getElem?_set_ne (Ne.symm hu), List.getElem?_set_ne (Ne.symm ht), List.getElem?_set_ne (Ne.symm ht)] at this
  simpa using this
end Go.Proofs.Ytbgoclfifhdonaa
