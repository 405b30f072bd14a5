/-
  Part 37 of the proof: 3 texts, one behind the other.
-/
import Derived.Test.YtonagfmkplbooaaGreatDoorPart36
import Derived.Test.YtonagfmkplbooaaGreatDoorPart26
import Derived.Test.YtonagfmkplbooaaGreatDoorPart25
import Derived.Test.YtonagfmkplbooaaGreatDoorRows
import Derived.ProofKit
import Derived.Lib.SmallJoins
import Derived.Test.YtonagfmkplbooaaGreatDoorPart7
import Derived.Deep.Slices
import Derived.Deep.Strs
import Derived.Carry
/-
  The law AlgebraMixes: two tables, a prefix.
-/
namespace Go.Proofs.YtonagfmkplbooaaGreatDoor
open Go.RowKit
set_option linter.unusedSimpArgs false
set_option linter.unusedVariables false

/-- Tables in variables, each with its routes, apart from some blocks. -/
def Kms (S : Nat → Prop) (W : World) : List (Nat × Int × Value × List Rte) → Prop
  | [] => True
  | e :: L => ((AtT W e.1 e.2.1 e.2.2.1 ∧ RwR W e.2.2.1 e.2.2.2) ∧ ¬ S e.1 ∧ ∀ b off n c, e.2.2.2 ≠ [] → e.2.2.1 = .slice (some ⟨b, off, none⟩) n c → ¬ S b) ∧ Kms S W L
theorem Kms.below {S : Nat → Prop} {W W' : World} (hb : Below W.heap.size W W') : ∀ {L : List (Nat × Int × Value × List Rte)}, Kms S W L → Kms S W' L
  | [], _ => trivial
  | e :: L, h => ⟨⟨⟨h.1.1.1.below hb, h.1.1.2.below hb⟩, h.1.2⟩, Kms.below hb h.2⟩
theorem rwr_blk {W : World} {v : Value} {l : List Rte} (h : RwR W v l) (b off n c : Nat) (hl : l ≠ []) (e : v = .slice (some ⟨b, off, none⟩) n c) : b < W.heap.size ∧ ∀ j u, (rowR l)[j]? = some u → W.cell? ⟨b, off + j, none⟩ = some u := by
  obtain ⟨ao, c', e', h⟩ := h
  rcases h with h | ⟨b', off', e2, hc⟩
  · exact absurd h hl
  · subst e2
    rw [e] at e'
    injection e' with e1
    injection e1 with e1
    injection e1 with e1 e3
    subst e1
    subst e3
    have : 0 < l.length := by
      cases l with
      | nil => exact absurd rfl hl
      | cons a l => simp
    exact ⟨cell_in (rwr_cells hc 0 this).1, hc⟩
theorem RwR.styS {S : Nat → Prop} {W W' : World} {g : Nat} {v : Value} {l : List Rte} (h : RwR W v l) (hs : Sty g W W') (hS : S g) (hn : ∀ b off n c, l ≠ [] → v = .slice (some ⟨b, off, none⟩) n c → ¬ S b) : RwR W' v l := by
  have h0 := h
  obtain ⟨ao, c, e, h⟩ := h
  refine ⟨ao, c, e, ?_⟩
  by_cases hl : l = []
  · exact .inl hl
  · rcases h with h | ⟨b, off, e', hc⟩
    · exact .inl h
    · right
      refine ⟨b, off, e', fun j u hj => ?_⟩
      have hb := hn b off l.length c hl (by rw [e, e'])
      have hlt := (rwr_blk h0 b off l.length c hl (by rw [e, e'])).1
      rw [cellH (hs.2.2.2.2 b hlt (fun q => hb (by rw [q]; exact hS)))]
      exact hc j u hj
theorem Kms.sty {S : Nat → Prop} {W W' : World} {g : Nat} (hs : Sty g W W') (hS : S g) : ∀ {L : List (Nat × Int × Value × List Rte)}, Kms S W L → Kms S W' L
  | [], _ => trivial
  | e :: L, h => by
    have hlt := cell_in h.1.1.1.1
    have he := hs.2.2.2.2 e.1 hlt (fun q => h.1.2.1 (by rw [q]; exact hS))
    exact ⟨⟨⟨h.1.1.1.heap6 he, h.1.1.2.styS hs hS h.1.2.2⟩, h.1.2⟩, Kms.sty hs hS h.2⟩
def Kmx (w : World) (S : Nat → Prop) (W : World) (L : List (Nat × Int × Value × List Rte)) : Prop := Kms S W L ∧ Below w.heap.size w W ∧ ∀ z, S z → w.heap.size ≤ z ∧ z < W.heap.size
theorem Kmx.below {w : World} {S : Nat → Prop} {W W' : World} {L : List (Nat × Int × Value × List Rte)} (h : Kmx w S W L) (hb : Below W.heap.size W W') : Kmx w S W' L := ⟨Kms.below hb h.1, keepb hb h.2.1, fun z hz => ⟨(h.2.2 z hz).1, Nat.lt_of_lt_of_le (h.2.2 z hz).2 hb.size⟩⟩
theorem Kmx.new {w : World} {S : Nat → Prop} {W W' : World} {L : List (Nat × Int × Value × List Rte)} {F : Int} {M : List Rte} {v : Value} (h : Kmx w S W L) (hb : Below W.heap.size W W') (hown : W'.ownsRow W.heap.size 45 4 v M.length (rowR M)) : Kmx w S (W'.alloc (.cells #[.int .i64 F, v] 24)) ((W'.heap.size, F, v, M) :: L) := by
  have hq := bl1 W' (.cells #[.int .i64 F, v] 24)
  have h2 := Kmx.below (Kmx.below h hb) hq
  refine ⟨⟨⟨⟨att_new W' W'.heap.size F v 24 rfl, (own_rwr hown).below hq⟩, fun hS => ?_, fun b off n c hne e hS => ?_⟩, h2.1⟩, h2.2⟩
  · have := (h.2.2 _ hS).2
    have := hb.size
    omega
  · have h1 := (h.2.2 _ hS).2
    have ob : v.ownBlock = some b ∨ v.ownBlock = none := by
      rcases hown.2 with ⟨rfl, -⟩ | ⟨g, cap, cur, rfl, -⟩
      · right; rfl
      · left; injection e with e1; injection e1 with e1; injection e1 with e1; rw [e1]; rfl
    rcases ob with ob | ob
    · have := (hown.lt b ob).1
      omega
    · rcases hown.2 with ⟨rfl, hn⟩ | ⟨g, cap, cur, rfl, -⟩
      · cases e
      · simp [Value.ownBlock] at ob
theorem Kmx.sty {w : World} {S : Nat → Prop} {W W' : World} {g : Nat} {L : List (Nat × Int × Value × List Rte)} (h : Kmx w S W L) (hs : Sty g W W') (hS : S g) : Kmx w S W' L := ⟨Kms.sty hs hS h.1, hs.low h.2.1 (h.2.2 g hS).1, fun z hz => ⟨(h.2.2 z hz).1, Nat.lt_of_lt_of_le (h.2.2 z hz).2 hs.2.2.2.1⟩⟩
/-- What is lent. -/
def LendO (W : World) (base g : Nat) (l : List Rte) : Prop := W.ownsRow base 45 4 (.slice (some ⟨g, 0, none⟩) (l.length + 3) (l.length + 3)) (l.length + 3) (rowR (l ++ mkR l.length 3))
theorem LendO.below {W W' : World} {base g : Nat} {l : List Rte} (h : LendO W base g l) (hb : Below W.heap.size W W') : LendO W' base g l := own_below hb h
theorem LendO.rw {W : World} {base g : Nat} {l : List Rte} (h : LendO W base g l) : RwR W (.slice (some ⟨g, 0, none⟩) l.length (l.length + 3)) l := lend_rwr h (l.length + 3)
theorem tabL_len (F : Int) (T : List Sg) : (tabL F T).length ≤ 1000000000 := by
  unfold tabL
  split
  · rename_i h
    unfold okL at h
    have := of_decide_eq_true h
    omega
  · simp
theorem ofV_len (q : Int → Int → Int) (F : Int) (l : List Rte) (G : Int) (m : List Rte) (z : Int) : (OfV q F l G m z).2.2.length ≤ 1000000000 := by
  unfold OfV
  split
  · exact tabL_len _ _
  · simp
theorem onV_len (F : Int) (l : List Rte) (px : BitVec 128) (pn z : Int) : (OnV F l px pn z).2.2.length ≤ 1000000000 := by
  unfold OnV
  split
  · exact tabL_len _ _
  · simp
set_option maxRecDepth 20000 in
set_option maxHeartbeats 16000000 in
theorem algebraMixes_any (F : Int) (va : Value) (l : List Rte) (G : Int) (vb : Value) (m : List Rte) (px : BitVec 128) (pn : Int) (w : World) (hT : Tab w) (hva : RwR w va l) (hvb : RwR w vb m) :
    Calls Tryz.prog 3 #[.agg #[.int .i64 F, va], .agg #[.int .i64 G, vb], .agg #[.int .u64 (hI px), .int .u64 (lI px), .int .i64 pn]] w fun e w' => e = .returned (.bool true) ∧ Below w.heap.size w w' := by
  have KK := fun w => known6_any w
  have q1 := bl1 w (.cells #[.int .i64 F, va] 24)
  have q2 := bl1 (w.alloc (.cells #[.int .i64 F, va] 24)) (.cells #[.int .i64 G, vb] 24)
  have q3 := bl1 ((w.alloc (.cells #[.int .i64 F, va] 24)).alloc (.cells #[.int .i64 G, vb] 24)) (.cells #[.int .u64 (hI px), .int .u64 (lI px), .int .i64 pn] 29)
  have hB := keepb q3 (keepb q2 q1)
  have H0 : Hid (Kmx w (fun _ => False) (((w.alloc (.cells #[.int .i64 F, va] 24)).alloc (.cells #[.int .i64 G, vb] 24)).alloc (.cells #[.int .u64 (hI px), .int .u64 (lI px), .int .i64 pn] 29)) [(w.heap.size, F, va, l), (w.heap.size + 1, G, vb, m)]) := hidR ⟨⟨⟨⟨((att_new w w.heap.size F va 24 rfl).below q2).below q3, hva.below hB⟩, fun h => h, fun _ _ _ _ _ _ h => h⟩, ⟨⟨(att_new (w.alloc (.cells #[.int .i64 F, va] 24)) (w.heap.size + 1) G vb 24 (by simp)).below q3, hvb.below hB⟩, fun h => h, fun _ _ _ _ _ _ h => h⟩, trivial⟩, hB, fun z h => h.elim⟩
  have P0 : Hid (AtP (((w.alloc (.cells #[.int .i64 F, va] 24)).alloc (.cells #[.int .i64 G, vb] 24)).alloc (.cells #[.int .u64 (hI px), .int .u64 (lI px), .int .i64 pn] 29)) (w.heap.size + 2) px pn) := hidR (atp_new ((w.alloc (.cells #[.int .i64 F, va] 24)).alloc (.cells #[.int .i64 G, vb] 24)) (w.heap.size + 2) px pn 29 (by simp))
  have HTab := hidR hT
  have HV := hidR (And.intro hva hvb)
  obtain ⟨ao, ca, rfl, -⟩ := hva
  obtain ⟨bo, cb, rfl, -⟩ := hvb
  clear q1 q2 q3 hB hT
  go_enter Tryz.func3, Tryz.ntmps3
  go_wp2_with fail
  refine (KK _).mono ?_
  rintro e v1 ⟨rfl, hb⟩
  have H1 := hidR (Kmx.below H0.out hb)
  have P1 := hidR (P0.out.below hb)
  clear P0
  clear H0
  clear hb
  clear KK
  by_cases hl : (3000 : Int) < (l.length : Int)
  · have dl : decide ((3000 : Int) < (l.length : Int)) = true := by simpa using hl
    obtain ⟨t0, s0⟩ := (H1.out.1).1.1.1
    obtain ⟨t1, s1⟩ := (H1.out.1.2).1.1.1
    clear hl
    go_wp2
    go_ret
    exact ⟨rfl, H1.out.2.1⟩
  have dl1 : decide ((3000 : Int) < (l.length : Int)) = false := by simpa using hl
  have hll : l.length ≤ 3000 := by omega
  clear hl
  by_cases hl : (3000 : Int) < (m.length : Int)
  · have dl : decide ((3000 : Int) < (m.length : Int)) = true := by simpa using hl
    obtain ⟨t0, s0⟩ := (H1.out.1).1.1.1
    obtain ⟨t1, s1⟩ := (H1.out.1.2).1.1.1
    clear hl
    go_wp2
    go_ret
    exact ⟨rfl, H1.out.2.1⟩
  have dl2 : decide ((3000 : Int) < (m.length : Int)) = false := by simpa using hl
  have hmm : m.length ≤ 3000 := by omega
  clear hl
  obtain ⟨t0, s0⟩ := (H1.out.1).1.1.1
  obtain ⟨t1, s1⟩ := (H1.out.1.2).1.1.1
  go_wp2_with fail
  clear t0 s0 t1 s1
  have hwa0 := hidR (show w.heap.size + 2 < _ from cell_in P1.out.1)
  have HBa := hidR H1.out.2.1
  have HWA := hidR (HV.out.1.below HBa.out)
  refine (lend5_any F (.slice ao l.length ca) l _ HWA.out (by omega)).mono ?_
  rintro e va2 ⟨⟨g1, rfl, ho⟩, hb⟩
  have hq := bl1 va2 (.cells #[.int .i64 F, .slice (some ⟨g1, 0, none⟩) l.length (l.length + 3)] 24)
  have M1 := hidR (att_new va2 va2.heap.size F (.slice (some ⟨g1, 0, none⟩) l.length (l.length + 3)) 24 rfl)
  have A11 : Hid (LendO (va2.alloc (.cells #[.int .i64 F, .slice (some ⟨g1, 0, none⟩) l.length (l.length + 3)] 24)) w.heap.size g1 l) := hidR (own_wide (own_below hq ho) HBa.out.size)
  have hg1 : v1.heap.size ≤ g1 ∧ g1 < va2.heap.size := ho.lt g1 rfl
  have Hb1 := hidR (Kmx.below (Kmx.below H1.out hb) hq)
  have Pb1 := hidR ((P1.out.below hb).below hq)
  clear ho hb hq H1 P1
  obtain ⟨t0, s0⟩ := (Hb1.out.1.2).1.1.1
  go_wp2_with fail
  clear t0 s0
  have HBc := hidR Hb1.out.2.1
  have HWB := hidR (HV.out.2.below HBc.out)
  refine (lend5_any G (.slice bo m.length cb) m _ HWB.out (by omega)).mono ?_
  rintro e vb2 ⟨⟨g2, rfl, ho⟩, hb⟩
  have hq := bl1 vb2 (.cells #[.int .i64 G, .slice (some ⟨g2, 0, none⟩) m.length (m.length + 3)] 24)
  have hg2 : (va2.alloc (.cells #[.int .i64 F, .slice (some ⟨g1, 0, none⟩) l.length (l.length + 3)] 24)).heap.size ≤ g2 ∧ g2 < vb2.heap.size := ho.lt g2 rfl
  have M2 := hidR ((M1.out.below hb).below hq)
  have O2 := hidR (att_new vb2 vb2.heap.size G (.slice (some ⟨g2, 0, none⟩) m.length (m.length + 3)) 24 rfl)
  have A12 := hidR ((A11.out.below hb).below hq)
  have A22 : Hid (LendO (vb2.alloc (.cells #[.int .i64 G, .slice (some ⟨g2, 0, none⟩) m.length (m.length + 3)] 24)) w.heap.size g2 m) := hidR (own_wide (own_below hq ho) HBc.out.size)
  have P2 := hidR ((Pb1.out.below hb).below hq)
  have Hx := Kmx.below (Kmx.below Hb1.out hb) hq
  have hsz1 : (va2.alloc (.cells #[.int .i64 F, .slice (some ⟨g1, 0, none⟩) l.length (l.length + 3)] 24)).heap.size = va2.heap.size + 1 := by simp
  have hsb := hb.size
  have hwa : w.heap.size + 2 < v1.heap.size := hwa0.out
  have H2 : Hid (Kmx w (fun z => z = g1 ∨ z = g2) (vb2.alloc (.cells #[.int .i64 G, .slice (some ⟨g2, 0, none⟩) m.length (m.length + 3)] 24)) [(w.heap.size, F, (.slice ao l.length ca), l), (w.heap.size + 1, G, (.slice bo m.length cb), m)]) := hidR ⟨⟨⟨⟨Hx.1.1.1.1, Hx.1.1.1.2⟩, fun h => by rcases h with h | h <;> simp only at h <;> omega, fun b off n c hne e h => by have := (rwr_blk HV.out.1 b off n c hne e).1; rcases h with h | h <;> omega⟩, ⟨⟨Hx.1.2.1.1.1, Hx.1.2.1.1.2⟩, fun h => by rcases h with h | h <;> simp only at h <;> omega, fun b off n c hne e h => by have := (rwr_blk HV.out.2 b off n c hne e).1; rcases h with h | h <;> omega⟩, trivial⟩, Hx.2.1, fun z h => by rcases h with h | h <;> subst h <;> simp <;> omega⟩
  have HGQ := hidR (show w.heap.size + 2 < g2 by omega)
  have HG := hidR (show g1 ≠ g2 ∧ g1 < va2.heap.size ∧ w.heap.size + 2 < g1 by omega)
  have HGN : Hid (g1 ≠ vb2.heap.size ∧ va2.heap.size ≠ g2 ∧ g2 ≠ vb2.heap.size ∧ g1 ≠ va2.heap.size) := hidR (by omega)
  clear ho hb hq Hx Hb1 Pb1 M1 A11 hg1 hg2 hsz1 hsb hwa
  obtain ⟨m0, m1⟩ := M2.out
  obtain ⟨o0, o1⟩ := O2.out
  go_wp2_with fail
  clear m0 m1 o0 o1
  refine (over_any F (.slice (some ⟨g1, 0, none⟩) l.length (l.length + 3)) l G (.slice (some ⟨g2, 0, none⟩) m.length (m.length + 3)) m _ (HTab.out.keep H2.out.2.1) A12.out.rw A22.out.rw).mono ?_
  rintro e v4 ⟨⟨z, u4, hz, rfl, hown⟩, hb⟩
  have HZ := hidR hz
  revert hown
  generalize hr1 : OfV qOver F l G m z = r1
  intro hown
  have HRr1 := hidR hr1
  have HLr1 : Hid (r1.2.2.length ≤ 1000000000) := hidR (by rw [← hr1]; exact ofV_len _ _ _ _ _ _)
  clear hz hr1
  obtain ⟨a4, c4, rfl⟩ := own_form hown
  have hq := bl1 v4 (.cells #[.int .i64 r1.1, .slice a4 r1.2.2.length c4] 24)
  have H4 := hidR (Kmx.new (F := r1.1) (M := r1.2.2) H2.out hb hown)
  have P4 := hidR ((P2.out.below hb).below hq)
  clear P2
  have M4 := hidR ((M2.out.below hb).below hq)
  clear M2
  have O4 := hidR ((O2.out.below hb).below hq)
  clear O2
  have A14 := hidR ((A12.out.below hb).below hq)
  clear A12
  have A24 := hidR ((A22.out.below hb).below hq)
  clear A22
  clear H2 hb hown hq
  obtain ⟨m0, m1⟩ := M4.out
  obtain ⟨o0, o1⟩ := O4.out
  go_wp2_with fail
  clear m0 m1 o0 o1
  revert H4 P4 M4 O4 A14 A24
  generalize v4.alloc (.cells #[.int .i64 r1.1, .slice a4 r1.2.2.length c4] 24) = W4
  generalize v4.heap.size = N4
  intro H4 P4 M4 O4 A14 A24
  refine (less_any F (.slice (some ⟨g1, 0, none⟩) l.length (l.length + 3)) l G (.slice (some ⟨g2, 0, none⟩) m.length (m.length + 3)) m _ (HTab.out.keep H4.out.2.1) A14.out.rw A24.out.rw).mono ?_
  rintro e v5 ⟨⟨z, u5, hz, rfl, hown⟩, hb⟩
  obtain rfl := twoE_one hz HZ.out
  revert hown
  generalize hr2 : OfV qLess F l G m z = r2
  intro hown
  have HRr2 := hidR hr2
  have HLr2 : Hid (r2.2.2.length ≤ 1000000000) := hidR (by rw [← hr2]; exact ofV_len _ _ _ _ _ _)
  clear hz hr2
  obtain ⟨a5, c5, rfl⟩ := own_form hown
  have hq := bl1 v5 (.cells #[.int .i64 r2.1, .slice a5 r2.2.2.length c5] 24)
  have H5 := hidR (Kmx.new (F := r2.1) (M := r2.2.2) H4.out hb hown)
  have P5 := hidR ((P4.out.below hb).below hq)
  clear P4
  have M5 := hidR ((M4.out.below hb).below hq)
  clear M4
  have O5 := hidR ((O4.out.below hb).below hq)
  clear O4
  have A15 := hidR ((A14.out.below hb).below hq)
  clear A14
  have A25 := hidR ((A24.out.below hb).below hq)
  clear A24
  clear H4 hb hown hq
  obtain ⟨m0, m1⟩ := M5.out
  obtain ⟨p0, p1, p2, -, -, -⟩ := P5.out
  go_wp2_with fail
  clear m0 m1 p0 p1 p2
  revert H5 P5 M5 O5 A15 A25
  generalize v5.alloc (.cells #[.int .i64 r2.1, .slice a5 r2.2.2.length c5] 24) = W5
  generalize v5.heap.size = N5
  intro H5 P5 M5 O5 A15 A25
  refine (only_any F (.slice (some ⟨g1, 0, none⟩) l.length (l.length + 3)) l px pn _ (HTab.out.keep H5.out.2.1) A15.out.rw).mono ?_
  rintro e v6 ⟨⟨y, u6, hz, rfl, hown⟩, hb⟩
  have HY := hidR hz
  revert hown
  generalize hr3 : OnV F l px pn y = r3
  intro hown
  have HRr3 := hidR hr3
  have HLr3 : Hid (r3.2.2.length ≤ 1000000000) := hidR (by rw [← hr3]; exact onV_len _ _ _ _ _)
  clear hz hr3
  obtain ⟨a6, c6, rfl⟩ := own_form hown
  have hq := bl1 v6 (.cells #[.int .i64 r3.1, .slice a6 r3.2.2.length c6] 24)
  have H6 := hidR (Kmx.new (F := r3.1) (M := r3.2.2) H5.out hb hown)
  have P6 := hidR ((P5.out.below hb).below hq)
  clear P5
  have M6 := hidR ((M5.out.below hb).below hq)
  clear M5
  have O6 := hidR ((O5.out.below hb).below hq)
  clear O5
  have A16 := hidR ((A15.out.below hb).below hq)
  clear A15
  have A26 := hidR ((A25.out.below hb).below hq)
  clear A25
  clear H5 hb hown hq
  obtain ⟨t0, s0⟩ := (H6.out.1.2.2.2).1.1.1
  obtain ⟨m0, m1⟩ := M6.out
  go_wp2_with fail
  clear t0 s0 m0 m1
  revert H6 P6 M6 O6 A16 A26
  generalize v6.alloc (.cells #[.int .i64 r3.1, .slice a6 r3.2.2.length c6] 24) = W6
  generalize v6.heap.size = N6
  intro H6 P6 M6 O6 A16 A26
  refine (kept5_any F (.slice ao l.length ca) l w _ HV.out.1 H6.out.2.1 g1 A16.out (by omega)).mono ?_
  rintro e v7 ⟨rfl, hs⟩
  have H7 := hidR (Kmx.sty H6.out hs (by simp))
  have P7 := hidR (P6.out.heapE (hs.2.2.2.2 _ (cell_in P6.out.1) (by have := HG.out.2.2; have := HGQ.out; omega)))
  have O7 := hidR (O6.out.heap6 (hs.2.2.2.2 _ (cell_in O6.out.1) (fun e => HGN.out.1 e.symm)))
  have A27 : Hid (LendO v7 _ g2 m) := hidR (hs.own A26.out (fun e => HG.out.1 (by simpa [Value.ownBlock] using e.symm)))
  clear hs H6 P6 M6 O6 A16 A26
  obtain ⟨t0, s0⟩ := (H7.out.1.2.2.2.2).1.1.1
  obtain ⟨o0, o1⟩ := O7.out
  go_wp2_with fail
  clear t0 s0 o0 o1
  refine (kept5_any G (.slice bo m.length cb) m w _ HV.out.2 H7.out.2.1 g2 A27.out (by omega)).mono ?_
  rintro e v8 ⟨rfl, hs⟩
  have H8 := hidR (Kmx.sty H7.out hs (by simp))
  have P8 := hidR (P7.out.heapE (hs.2.2.2.2 _ (cell_in P7.out.1) (by have := HG.out.2.2; have := HGQ.out; omega)))
  clear hs H7 P7 O7 A27
  obtain ⟨t0, s0⟩ := (H8.out.1.2.2.2).1.1.1
  obtain ⟨t1, s1⟩ := (H8.out.1.2.2.2.2).1.1.1
  go_wp2_with fail
  clear t0 s0 t1 s1
  refine (rover_any F (.slice ao l.length ca) l G (.slice bo m.length cb) m _ ((H8.out.1.2.2.2).1.1.2) ((H8.out.1.2.2.2.2).1.1.2)).mono ?_
  rintro e v9 ⟨⟨z2, u9, hz, rfl, hown⟩, hb⟩
  obtain rfl := twoE_one hz HZ.out
  rw [HRr1.out] at hown
  rw [HRr1.out]
  clear hz
  obtain ⟨a9, c9, rfl⟩ := own_form hown
  have hq := bl1 v9 (.cells #[.int .i64 r1.1, .slice a9 r1.2.2.length c9] 24)
  have H9 := hidR (Kmx.new (F := r1.1) (M := r1.2.2) H8.out hb hown)
  have P9 := hidR ((P8.out.below hb).below hq)
  clear P8
  clear H8 hb hown hq
  obtain ⟨t0, s0⟩ := (H9.out.1.2.2.2.2).1.1.1
  obtain ⟨t1, s1⟩ := (H9.out.1.2.2.2.2.2).1.1.1
  go_wp2_with fail
  clear t0 s0 t1 s1
  revert H9 P9
  generalize v9.alloc (.cells #[.int .i64 r1.1, .slice a9 r1.2.2.length c9] 24) = W9
  generalize v9.heap.size = N9
  intro H9 P9
  refine (rless_any F (.slice ao l.length ca) l G (.slice bo m.length cb) m _ ((H9.out.1.2.2.2.2).1.1.2) ((H9.out.1.2.2.2.2.2).1.1.2)).mono ?_
  rintro e v10 ⟨⟨z2, u10, hz, rfl, hown⟩, hb⟩
  obtain rfl := twoE_one hz HZ.out
  rw [HRr2.out] at hown
  rw [HRr2.out]
  clear hz
  obtain ⟨a10, c10, rfl⟩ := own_form hown
  have hq := bl1 v10 (.cells #[.int .i64 r2.1, .slice a10 r2.2.2.length c10] 24)
  have H10 := hidR (Kmx.new (F := r2.1) (M := r2.2.2) H9.out hb hown)
  have P10 := hidR ((P9.out.below hb).below hq)
  clear P9
  clear H9 hb hown hq
  obtain ⟨t0, s0⟩ := (H10.out.1.2.2.2.2.2).1.1.1
  obtain ⟨p0, p1, p2, -, -, -⟩ := P10.out
  go_wp2_with fail
  clear t0 s0 p0 p1 p2
  revert H10 P10
  generalize v10.alloc (.cells #[.int .i64 r2.1, .slice a10 r2.2.2.length c10] 24) = W10
  generalize v10.heap.size = N10
  intro H10 P10
  refine (ronly_any F (.slice ao l.length ca) l px pn _ ((H10.out.1.2.2.2.2.2).1.1.2)).mono ?_
  rintro e v11 ⟨⟨z2, u11, hz, rfl, hown⟩, hb⟩
  obtain rfl := onE_one hz HY.out
  rw [HRr3.out] at hown
  rw [HRr3.out]
  clear hz
  obtain ⟨a11, c11, rfl⟩ := own_form hown
  have hq := bl1 v11 (.cells #[.int .i64 r3.1, .slice a11 r3.2.2.length c11] 24)
  have H11 := hidR (Kmx.new (F := r3.1) (M := r3.2.2) H10.out hb hown)
  have P11 := hidR ((P10.out.below hb).below hq)
  clear P10
  clear H10 hb hown hq
  obtain ⟨t0, s0⟩ := (H11.out.1.2.2.2.2.2).1.1.1
  obtain ⟨t1, s1⟩ := (H11.out.1.2.2).1.1.1
  go_wp2_with fail
  clear t0 s0 t1 s1
  revert H11 P11
  generalize v11.alloc (.cells #[.int .i64 r3.1, .slice a11 r3.2.2.length c11] 24) = W11
  generalize v11.heap.size = N11
  intro H11 P11
  refine (sameT_any r1.1 _ _ r1.2.2 _ ((H11.out.1.2.2.2.2.2).1.1.2) ((H11.out.1.2.2).1.1.2) HLr1.out).mono ?_
  rintro e v12 ⟨rfl, hb⟩
  have H12 := hidR (Kmx.below H11.out hb)
  have P12 := hidR (P11.out.below hb)
  clear P11
  clear H11
  clear hb
  obtain ⟨t0, s0⟩ := (H12.out.1.2.2.2.2).1.1.1
  obtain ⟨t1, s1⟩ := (H12.out.1.2).1.1.1
  go_wp2_with fail
  clear t0 s0 t1 s1
  refine (sameT_any r2.1 _ _ r2.2.2 _ ((H12.out.1.2.2.2.2).1.1.2) ((H12.out.1.2).1.1.2) HLr2.out).mono ?_
  rintro e v13 ⟨rfl, hb⟩
  have H13 := hidR (Kmx.below H12.out hb)
  have P13 := hidR (P12.out.below hb)
  clear P12
  clear H12
  clear hb
  obtain ⟨t0, s0⟩ := (H13.out.1.2.2.2).1.1.1
  obtain ⟨t1, s1⟩ := (H13.out.1).1.1.1
  go_wp2_with fail
  clear t0 s0 t1 s1
  refine (sameT_any r3.1 _ _ r3.2.2 _ ((H13.out.1.2.2.2).1.1.2) ((H13.out.1).1.1.2) HLr3.out).mono ?_
  rintro e v14 ⟨rfl, hb⟩
  have H14 := hidR (Kmx.below H13.out hb)
  have P14 := hidR (P13.out.below hb)
  clear P13
  clear H13
  clear hb
  go_wp2
  go_ret
  exact ⟨rfl, H14.out.2.1⟩
end Go.Proofs.YtonagfmkplbooaaGreatDoor
/-
  How a prefix that is handed in reads as data.
-/
namespace Go.Proofs.YtonagfmkplbooaaGreatDoor
open Go.ChangeShapes Go.WideShapes Go.ChangeAt Go.RowKit Go.Joins
set_option linter.unusedSimpArgs false
set_option linter.unusedVariables false

theorem Tryz.cellsW : Tryz.prog.cellsOf 27 = 2 := by kernel_rfl
theorem Tryz.cellsP : Tryz.prog.cellsOf 29 = 3 := by kernel_rfl
theorem Tryz.cellsI : Tryz.prog.cellsOf 3 = 1 := by kernel_rfl
theorem Tryz.cellsU : Tryz.prog.cellsOf 25 = 1 := by kernel_rfl
section
variable {H : Type} {enc : TypeId × Value → H} {w : World} {base : Nat} {spare : Nat → Bool} {held : Bool}
set_option maxRecDepth 100000 in
theorem open_pfx {r : Reach} {b0 : Nat} {v : Value} {d : DataW H} {p : List MemPlace} (hv : Value.okWide Tryz.prog w r b0 29 v) (h : DataW.Trod enc Tryz.prog w base spare held 29 v d p) :
    ∃ a b n : Int, v = .agg #[.int .u64 a, .int .u64 b, .int .i64 n] ∧ d = .agg [.agg [.lit (.int .u64 a), .lit (.int .u64 b)], .lit (.int .i64 n)] ∧ p = [] ∧ (Lit.int .u64 a).wf = true ∧ (Lit.int .u64 b).wf = true ∧ (Lit.int .i64 n).wf = true := by
  obtain ⟨cs, rfl, hsz⟩ := okWide_struct Tryz.underlying29 hv
  obtain ⟨c0, c1, c2, rfl⟩ := array3 (hsz.trans Tryz.cellsP)
  obtain ⟨fuel, hf⟩ := h
  obtain ⟨y0, y1, n, hx, _, h0, h1⟩ := trod_struct2 Tryz.underlying29 hf
  have h0' : DataW.trod enc Tryz.prog w base spare held n 27 [c0, c1] = some y0 := by simpa [Value.cells, Tryz.cellsW] using h0
  have h1' : DataW.trod enc Tryz.prog w base spare held n 3 [c2] = some y1 := by simpa [Value.cells, Tryz.cellsI] using h1
  obtain ⟨u0, u1, m, hu, _, g0, g1⟩ := trod_struct2 Tryz.underlying27 h0'
  have g0' : DataW.trod enc Tryz.prog w base spare held m 25 [c0] = some u0 := by simpa [Value.cells, Tryz.cellsU] using g0
  have g1' : DataW.trod enc Tryz.prog w base spare held m 25 [c1] = some u1 := by simpa [Value.cells, Tryz.cellsU] using g1
  obtain ⟨a, ea, rfl, wa⟩ := DataW.trod_int Tryz.underlying25 g0'
  obtain ⟨b, eb, rfl, wb⟩ := DataW.trod_int Tryz.underlying25 g1'
  obtain ⟨k, ek, rfl, wk⟩ := DataW.trod_int Tryz.underlying3 h1'
  simp at ea eb ek
  subst ea eb ek hu
  simp only [Prod.mk.injEq] at hx
  exact ⟨a, b, k, rfl, hx.1, by simpa using hx.2, wa, wb, wk⟩
set_option maxRecDepth 100000 in
theorem shut_pfx {a b n : Int} (wa : (Lit.int .u64 a).wf = true) (wb : (Lit.int .u64 b).wf = true) (wn : (Lit.int .i64 n).wf = true) :
    DataW.Trod enc Tryz.prog w base spare held 29 (.agg #[.int .u64 a, .int .u64 b, .int .i64 n]) (.agg [.agg [.lit (.int .u64 a), .lit (.int .u64 b)], .lit (.int .i64 n)]) [] := by
  have f : ∀ {z : Int}, (Lit.int .u64 z).wf = true → DataW.trod enc Tryz.prog w base spare held 1 25 [.int .u64 z] = some (.lit (.int .u64 z), []) := fun hz => by simp [DataW.trod, Tryz.underlying25, hz]
  have g : DataW.trod enc Tryz.prog w base spare held 2 3 [.int .i64 n] = some (.lit (.int .i64 n), []) := by simp [DataW.trod, Tryz.underlying3, wn]
  have s : DataW.trod enc Tryz.prog w base spare held 2 27 [.int .u64 a, .int .u64 b] = some (.agg [.lit (.int .u64 a), .lit (.int .u64 b)], []) := by
    have := trod_struct2_mk (enc := enc) (w := w) (base := base) (spare := spare) (held := held) (n := 1) (cs := [.int .u64 a, .int .u64 b]) Tryz.underlying27 (by simp [Tryz.cellsW]) (by simpa [Tryz.cellsU] using f wa) (by simpa [Tryz.cellsU] using f wb)
    simpa using this
  have := trod_struct2_mk (enc := enc) (w := w) (base := base) (spare := spare) (held := held) (n := 2) (cs := [.int .u64 a, .int .u64 b, .int .i64 n]) Tryz.underlying29 (by simp [Tryz.cellsP]) (by simpa [Tryz.cellsW] using s) (by simpa [Tryz.cellsI] using g)
  exact ⟨3, by simpa [Value.cells] using this⟩
end
end Go.Proofs.YtonagfmkplbooaaGreatDoor
/-
  How a table that is handed in reads as data.
-/
namespace Go.Proofs.YtonagfmkplbooaaGreatDoor
open Go.ChangeShapes Go.WideShapes Go.ChangeAt Go.RowKit Go.Joins
set_option linter.unusedSimpArgs false
set_option linter.unusedVariables false

theorem Tryz.laidOut : laidOutB Tryz.prog = true := by kernel_rfl
theorem Tryz.cellsR : Tryz.prog.cellsOf 45 = 4 := by kernel_rfl
theorem Tryz.cellsT : Tryz.prog.cellsOf 24 = 2 := by kernel_rfl
theorem Tryz.cellsL : Tryz.prog.cellsOf 22 = 1 := by kernel_rfl
theorem addT (g o j : Nat) : (⟨g, o, none⟩ : Addr).add j = ⟨g, o + j, none⟩ := by unfold Addr.add; split <;> simp_all
theorem rowR_lenF (l : List Rte) : (rowR l).length = l.length * 4 := by
  induction l with
  | nil => rfl
  | cons r l ih => simp [rowR, ih]; omega
theorem rowR_all {W : World} {b off : Nat} (l : List Rte) (h : ∀ i (hi : i < l.length), W.cell? ⟨b, off + i * 4, none⟩ = some (.int .u64 (hI l[i].1.1)) ∧ W.cell? ⟨b, off + (i * 4 + 1), none⟩ = some (.int .u64 (lI l[i].1.1)) ∧ W.cell? ⟨b, off + (i * 4 + 2), none⟩ = some (.int .i64 l[i].1.2) ∧ W.cell? ⟨b, off + (i * 4 + 3), none⟩ = some (.int .i64 l[i].2)) :
    ∀ j u, (rowR l)[j]? = some u → W.cell? ⟨b, off + j, none⟩ = some u := by
  intro j u hj
  have hlt : j < (rowR l).length := (List.getElem?_eq_some_iff.1 hj).1
  rw [rowR_lenF] at hlt
  have hi : j / 4 < l.length := by omega
  obtain ⟨a0, a1, a2, a3⟩ := h (j / 4) hi
  obtain ⟨b0, b1, b2, b3⟩ := rowR_get l (j / 4) hi
  have hm : j % 4 = 0 ∨ j % 4 = 1 ∨ j % 4 = 2 ∨ j % 4 = 3 := by omega
  rcases hm with hm | hm | hm | hm
  · have e : j = j / 4 * 4 := by omega
    rw [e, b0] at hj
    rw [e, ← hj]; exact a0
  · have e : j = j / 4 * 4 + 1 := by omega
    rw [e, b1] at hj
    rw [e, ← hj]; exact a1
  · have e : j = j / 4 * 4 + 2 := by omega
    rw [e, b2] at hj
    rw [e, ← hj]; exact a2
  · have e : j = j / 4 * 4 + 3 := by omega
    rw [e, b3] at hj
    rw [e, ← hj]; exact a3
section
variable {H : Type} {enc : TypeId × Value → H} {w : World} {spare : Nat → Bool} {held : Bool}
set_option maxRecDepth 100000 in
theorem trod_word {n : Nat} {c0 c1 : Value} {x : DataW H × List MemPlace} (h : DataW.trod enc Tryz.prog w 0 spare held n 27 [c0, c1] = some x) :
    ∃ a b : Int, c0 = .int .u64 a ∧ c1 = .int .u64 b ∧ (Lit.int .u64 a).wf = true ∧ (Lit.int .u64 b).wf = true := by
  obtain ⟨u0, u1, m, hu, _, g0, g1⟩ := trod_struct2 Tryz.underlying27 h
  have g0' : DataW.trod enc Tryz.prog w 0 spare held m 25 [c0] = some u0 := by simpa [Value.cells, Tryz.cellsU] using g0
  have g1' : DataW.trod enc Tryz.prog w 0 spare held m 25 [c1] = some u1 := by simpa [Value.cells, Tryz.cellsU] using g1
  obtain ⟨a, ea, rfl, wa⟩ := DataW.trod_int Tryz.underlying25 g0'
  obtain ⟨b, eb, rfl, wb⟩ := DataW.trod_int Tryz.underlying25 g1'
  simp at ea eb
  exact ⟨a, b, ea, eb, wa, wb⟩
set_option maxRecDepth 100000 in
theorem trod_rte {n : Nat} {c0 c1 c2 c3 : Value} {x : DataW H × List MemPlace} (h : DataW.trod enc Tryz.prog w 0 spare held n 45 [c0, c1, c2, c3] = some x) :
    ∃ a b k g : Int, c0 = .int .u64 a ∧ c1 = .int .u64 b ∧ c2 = .int .i64 k ∧ c3 = .int .i64 g ∧ (Lit.int .u64 a).wf = true ∧ (Lit.int .u64 b).wf = true := by
  obtain ⟨y0, y1, n, hx, _, h0, h1⟩ := trod_struct2 Tryz.underlying45 h
  have h0' : DataW.trod enc Tryz.prog w 0 spare held n 29 [c0, c1, c2] = some y0 := by simpa [Value.cells, Tryz.cellsP] using h0
  have h1' : DataW.trod enc Tryz.prog w 0 spare held n 3 [c3] = some y1 := by simpa [Value.cells, Tryz.cellsI, Tryz.cellsP] using h1
  obtain ⟨z0, z1, n2, hz, _, k0, k1⟩ := trod_struct2 Tryz.underlying29 h0'
  have k0' : DataW.trod enc Tryz.prog w 0 spare held n2 27 [c0, c1] = some z0 := by simpa [Value.cells, Tryz.cellsW] using k0
  have k1' : DataW.trod enc Tryz.prog w 0 spare held n2 3 [c2] = some z1 := by simpa [Value.cells, Tryz.cellsI, Tryz.cellsW] using k1
  obtain ⟨a, b, e0, e1, wa, wb⟩ := trod_word k0'
  obtain ⟨k, ek, rfl, wk⟩ := DataW.trod_int Tryz.underlying3 k1'
  obtain ⟨g, eg, rfl, wg⟩ := DataW.trod_int Tryz.underlying3 h1'
  simp at ek eg
  exact ⟨a, b, k, g, e0, e1, ek, eg, wa, wb⟩
theorem spot_none {W : World} {a : Addr} {u : Value} (h : W.cell? a = some u) : a = ⟨a.block, a.off, none⟩ := by
  obtain ⟨b, o, s⟩ := a
  cases s with
  | none => rfl
  | some z =>
    unfold World.cell? at h
    split at h
    · simp at h
    · cases h
theorem array2v {cs : Array Value} (h : cs.size = 2) : ∃ a b, cs = #[a, b] := by
  obtain ⟨l⟩ := cs
  match l, h with
  | [a, b], _ => exact ⟨a, b, rfl⟩
set_option maxRecDepth 100000 in
theorem open_tab {r : Reach} {b0 : Nat} {v : Value} {d : DataW H} {p : List MemPlace} (hv : Value.okWide Tryz.prog w r b0 24 v) (h : DataW.Trod enc Tryz.prog w 0 (fun _ => true) held 24 v d p) :
    ∃ (F : Int) (va : Value) (l : List Rte), v = .agg #[.int .i64 F, va] ∧ RwR w va l := by
  obtain ⟨cs, rfl, hsz⟩ := okWide_struct Tryz.underlying24 hv
  obtain ⟨c0, va, rfl⟩ := array2v (hsz.trans Tryz.cellsT)
  obtain ⟨fuel, hf⟩ := h
  obtain ⟨y0, y1, n, hx, _, h0, h1⟩ := trod_struct2 Tryz.underlying24 hf
  have h0' : DataW.trod enc Tryz.prog w 0 (fun _ => true) held n 3 [c0] = some y0 := by simpa [Value.cells, Tryz.cellsI] using h0
  have h1' : DataW.trod enc Tryz.prog w 0 (fun _ => true) held n 22 [va] = some y1 := by simpa [Value.cells, Tryz.cellsI, Tryz.cellsL] using h1
  obtain ⟨F, eF, rfl, wF⟩ := DataW.trod_int Tryz.underlying3 h0'
  simp at eF
  subst eF
  refine ⟨F, va, ?_⟩
  rcases Deep.open_slice Tryz.underlying22 h1' with ⟨hcs, hx⟩ | ⟨a, len, cap, m, n, D, Pl, hcs, _, hl, hm, hmm, hx, hel⟩
  · simp at hcs
    subst hcs
    exact ⟨[], rfl, none, 0, rfl, .inl rfl⟩
  · simp at hcs
    subst hcs
    simp at hmm
    subst hmm
    rw [Tryz.cellsR] at hel
    obtain ⟨f, hf⟩ := Deep.choose_lt (α := Rte) (n := len) (p := fun i x => w.cell? (a.add (i * 4)) = some (.int .u64 (hI x.1.1)) ∧ w.cell? ((a.add (i * 4)).add 1) = some (.int .u64 (lI x.1.1)) ∧ w.cell? ((a.add (i * 4)).add 2) = some (.int .i64 x.1.2) ∧ w.cell? ((a.add (i * 4)).add 3) = some (.int .i64 x.2)) (fun i hi => by
      obtain ⟨cs', h1, h2⟩ := hel i (by omega)
      obtain ⟨_, hlen, hc⟩ := World.cells?_some h1
      match cs', hlen with
      | [c0, c1, c2, c3], _ =>
        obtain ⟨x, y, k, g, rfl, rfl, rfl, rfl, wx, wy⟩ := trod_rte h2
        have bx : 0 ≤ x ∧ x < 18446744073709551616 := by simp [Lit.wf, IntKind.min, IntKind.max, IntKind.signed, IntKind.bits] at wx; omega
        have bY : 0 ≤ y ∧ y < 18446744073709551616 := by simp [Lit.wf, IntKind.min, IntKind.max, IntKind.signed, IntKind.bits] at wy; omega
        refine ⟨((mkW x y, k), g), ?_, ?_, ?_, ?_⟩
        · have := hc 0 (by omega)
          rw [hI_mk x y bx.1 bx.2]
          simpa [Addr.add] using this
        · rw [lI_mk x y bY.1 bY.2]
          simpa using hc 1 (by omega)
        · simpa using hc 2 (by omega)
        · simpa using hc 3 (by omega))
    refine ⟨(List.range len).map f, rfl, some a, _, by simp; rfl, ?_⟩
    by_cases hz : len = 0
    · subst hz
      exact .inl (by simp)
    · have h00 := (hf 0 (by omega)).1
      have ea : a = ⟨a.block, a.off, none⟩ := by
        have : a.add (0 * 4) = a := by simp [Addr.add]
        rw [this] at h00
        exact spot_none h00
      refine .inr ⟨a.block, a.off, by rw [← ea], ?_⟩
      refine rowR_all _ ?_
      intro i hi
      have hi' : i < len := by simpa using hi
      have := hf i hi'
      rw [ea] at this
      simp only [addT] at this
      simpa [Nat.add_assoc] using this
end
end Go.Proofs.YtonagfmkplbooaaGreatDoor
