/-
  Part 15 of the proof: 5 texts, one behind the other.
-/
import Derived.Test.YtkgfeegcdohkdaaDoorPart14
import Derived.Test.YtkgfeegcdohkdaaDoorPart13
import Derived.Test.YtkgfeegcdohkdaaDoorPart7
import Derived.Test.YtkgfeegcdohkdaaDoorRows
import Derived.ProofKit
import Derived.Lib.SmallJoins
namespace Go.Proofs.YtkgfeegcdohkdaaDoor
open Go.RowKit
set_option linter.unusedSimpArgs false
set_option linter.unusedVariables false

/-- A number of addresses in memory. -/
def AtC (w : World) (B : Nat) (x y z : Int) : Prop := w.cell? ⟨B, 0, none⟩ = some (.int .u64 x) ∧ w.cell? ⟨B, 1, none⟩ = some (.int .u64 y) ∧ w.cell? ⟨B, 2, none⟩ = some (.int .u64 z) ∧ w.frozen? ⟨B, 0, none⟩ = false ∧ w.frozen? ⟨B, 1, none⟩ = false ∧ w.frozen? ⟨B, 2, none⟩ = false
theorem AtC.below {w w' : World} {B : Nat} {x y z : Int} (h : AtC w B x y z) (hb : Below w.heap.size w w') : AtC w' B x y z := by
  obtain ⟨h0, h1, h2, h3, h4, h5⟩ := h
  exact ⟨keepc hb h0, keepc hb h1, keepc hb h2, keepf hb h0 h3, keepf hb h1 h4, keepf hb h2 h5⟩
theorem atc_new (w : World) (B : Nat) (x y z : Int) (T : TypeId) (h : B = w.heap.size) : AtC (w.alloc (.cells #[.int .u64 x, .int .u64 y, .int .u64 z] T)) B x y z := by
  subst h
  refine ⟨?_, ?_, ?_, ?_, ?_, ?_⟩ <;> simp [go_sem]
theorem AtC.set {W : World} {B : Nat} {x y z : Int} (h : AtC W B x y z) (x' y' z' : Int) : AtC (((W.setCell ⟨B, 0, none⟩ (.int .u64 x')).setCell ⟨B, 1, none⟩ (.int .u64 y')).setCell ⟨B, 2, none⟩ (.int .u64 z')) B x' y' z' := by
  obtain ⟨a0, a1, a2, a3, a4, a5⟩ := h
  refine ⟨?_, ?_, ?_, ?_, ?_, ?_⟩ <;> simp [go_sem, *]
theorem AtC.lt {W : World} {B : Nat} {x y z : Int} (h : AtC W B x y z) : B < W.heap.size := cell_in h.1
set_option maxRecDepth 20000 in
set_option maxHeartbeats 4000000 in
theorem count_any (F : Int) (v : Value) (l m : List (BitVec 128 × Int)) (w : World) (hF : F ≤ 128) (hl : m.length ≤ 1000000000) (hm : ∀ p ∈ m, 0 ≤ p.2 ∧ p.2 ≤ F)
    (KM : ∀ w, Rw w v l → Calls Tryd.prog 22 #[.int .i64 F, v] w fun e w' => (∃ v', e = .returned (.tuple #[v', .int .i64 0]) ∧ Rw w' v' m) ∧ Below w.heap.size w w') (hv : Rw w v l) :
    Calls Tryd.prog 27 #[.int .i64 F, v] w fun e w' => e = .returned (.tuple #[costV (sizN F m), .int .i64 0]) ∧ Below w.heap.size w w' := by
  have HM : Hid (∀ p ∈ m, 0 ≤ p.2 ∧ p.2 ≤ F) := hm
  have HV : Hid (Rw w v l) := hv
  clear hm hv
  go_enter Tryd.func27, Tryd.ntmps27
  go_wp2_with fail
  refine (KM _ (HV.out.below (bl1 _ _))).mono ?_
  rintro e w1 ⟨⟨v1, rfl, hR⟩, hb⟩
  have kB1 := keepb hb (bl1 w (.cells #[.int .u64 0, .int .u64 0, .int .u64 0] 56))
  obtain ⟨ao, c, rfl, hv⟩ := hR
  have HV : Hid ((ao = none ∧ m = []) ∨ ∃ b off, ao = some ⟨b, off, none⟩ ∧ ∀ j u, (rowP m)[j]? = some u → w1.cell? ⟨b, off + j, none⟩ = some u) := hv
  clear hv KM
  have R1 : AtC w1 w.heap.size 0 0 0 := (atc_new w w.heap.size 0 0 0 56 rfl).below hb
  clear hb
  go_wp2_with fail
  go_loopw [23] (fun i wr => ∃ k : Nat, k ≤ m.length ∧ i = .int .i64 k ∧ AtC wr w1.heap.size (cost0 (sizN F (m.take k))) (cost1 (sizN F (m.take k))) (cost2 (sizN F (m.take k))) ∧ Below w1.heap.size w1 wr) (fun i _ => m.length - (intOf i).toNat)
  case atStart => exact ⟨0, by omega, rfl, by simpa [sizN, cost0, cost1, cost2] using atc_new w1 w1.heap.size 0 0 0 56 rfl, bl1 _ _⟩
  case round =>
    obtain ⟨k, hk, rfl, hS, kB⟩ := hrel
    by_cases hlt : (k : Int) < (m.length : Int)
    · have hks : k < m.length := by omega
      rcases HV.out with ⟨-, h⟩ | ⟨b, off, rfl, hc⟩
      · rw [h] at hks; simp at hks
      · obtain ⟨x0, x1, x2⟩ := rw_cells hc k hks
        have x0 := keepc kB x0
        have x1 := keepc kB x1
        have x2 := keepc kB x2
        have bd := HM.out m[k] (List.getElem_mem hks)
        have Ksize := fun w => size_any F m[k].1 m[k].2 w bd.1 bd.2 hF
        have hsum := siz_take F m k hks
        have hup : sizN F (m.take (k + 1)) < 6277101735386680763835789423207666416102355444464034512896 := by
          have := sizN_le F hF (m.take (k + 1)) (fun p hp => (HM.out p (List.mem_of_mem_take hp)).1)
          have : (m.take (k + 1)).length ≤ 1000000000 := by simp; omega
          omega
        have Kplus := fun w => plus_any (sizN F (m.take k)) (2 ^ (F - m[k].2).toNat) w (by omega)
        rw [← hsum] at Kplus
        clear hsum hup hc bd HV
        unfold costV at Ksize Kplus
        revert Ksize Kplus
        generalize 2 ^ (F - m[k].2).toNat = zz
        generalize cost0 zz = z0
        generalize cost1 zz = z1
        generalize cost2 zz = z2
        generalize m[k].1 = px at *
        generalize m[k].2 = pn at *
        intro Ksize Kplus
        obtain ⟨t0, ht0⟩ : ∃ t, t = cost0 (sizN F (m.take (k + 1))) := ⟨_, rfl⟩
        obtain ⟨t1, ht1⟩ : ∃ t, t = cost1 (sizN F (m.take (k + 1))) := ⟨_, rfl⟩
        obtain ⟨t2, ht2⟩ : ∃ t, t = cost2 (sizN F (m.take (k + 1))) := ⟨_, rfl⟩
        rw [← ht0, ← ht1, ← ht2] at Kplus
        have HT : Hid (t0 = cost0 (sizN F (m.take (k + 1))) ∧ t1 = cost1 (sizN F (m.take (k + 1))) ∧ t2 = cost2 (sizN F (m.take (k + 1)))) := ⟨ht0, ht1, ht2⟩
        clear ht0 ht1 ht2
        generalize cost0 (sizN F (m.take k)) = s0 at *
        generalize cost1 (sizN F (m.take k)) = s1 at *
        generalize cost2 (sizN F (m.take k)) = s2 at *
        have hP := atp_new wr wr.heap.size px pn 26 rfl
        have hS' := hS.below (bl1 wr (.cells #[.int .u64 (hI px), .int .u64 (lI px), .int .i64 pn] 26))
        have kB' := keepb (bl1 wr (.cells #[.int .u64 (hI px), .int .u64 (lI px), .int .i64 pn] 26)) kB
        have mk : IntKind.i64.wrap ((k : Int) + 1) = (k : Int) + 1 := by rw [IntKind.wrap_i64]; omega
        go_wp2_with fail
        refine qp_region2 5 (qpOk 5 5 (by decide) (fun N => by kernel_rfl) (by kernel_rfl) (by kernel_rfl) (by kernel_rfl) (by kernel_rfl)) (C := fun W => AtC W w1.heap.size s0 s1 s2 ∧ AtP W wr.heap.size px pn ∧ Below w1.heap.size w1 W) [some 27, some 28, some 29, some 30, some 31] [.agg #[.int .u64 s0, .int .u64 s1, .int .u64 s2], .int .i64 F, .agg #[.int .u64 (hI px), .int .u64 (lI px), .int .i64 pn], .agg #[.int .u64 z0, .int .u64 z1, .int .u64 z2], .agg #[.int .u64 t0, .int .u64 t1, .int .u64 t2]] (by kernel_rfl) ⟨hS', hP, kB'.drew⟩ ?walk ?fin
        case walk =>
         dsimp only [List.take]
         refine q_run (v := .agg #[.int .u64 s0, .int .u64 s1, .int .u64 s2]) (by rfl) ?_ ?_
         · (intro w9 hC; obtain ⟨⟨r0, r1, r2, -, -, -⟩, ⟨q0, q1, q2, -, -, -⟩, -⟩ := hC; go_simp)
         simp only [Act.put, List.setIfInBounds_toArray, List.set_cons_zero, List.set_cons_succ]
         refine q_run (v := .int .i64 F) (by rfl) ?_ ?_
         · (intro w9 hC; obtain ⟨⟨r0, r1, r2, -, -, -⟩, ⟨q0, q1, q2, -, -, -⟩, -⟩ := hC; go_simp)
         simp only [Act.put, List.setIfInBounds_toArray, List.set_cons_zero, List.set_cons_succ]
         refine q_run (v := .agg #[.int .u64 (hI px), .int .u64 (lI px), .int .i64 pn]) (by rfl) ?_ ?_
         · (intro w9 hC; obtain ⟨⟨r0, r1, r2, -, -, -⟩, ⟨q0, q1, q2, -, -, -⟩, -⟩ := hC; go_simp)
         simp only [Act.put, List.setIfInBounds_toArray, List.set_cons_zero, List.set_cons_succ]
         refine q_call (v := .agg #[.int .u64 z0, .int .u64 z1, .int .u64 z2]) (f := 65) (args := #[.int .i64 F, .agg #[.int .u64 (hI px), .int .u64 (lI px), .int .i64 pn]]) (by rfl) ?_ ?_ ?_
         · (intro w9 hC; clear hC; go_simp)
         · exact fun w9 hC => (Ksize w9).mono fun e w' ⟨he, hb⟩ => ⟨he, hC.1.below hb, hC.2.1.below hb, keepb hb hC.2.2⟩
         simp only [Act.put, List.setIfInBounds_toArray, List.set_cons_zero, List.set_cons_succ]
         refine q_call (v := .agg #[.int .u64 t0, .int .u64 t1, .int .u64 t2]) (f := 64) (args := #[.agg #[.int .u64 s0, .int .u64 s1, .int .u64 s2], .agg #[.int .u64 z0, .int .u64 z1, .int .u64 z2]]) (by rfl) ?_ ?_ ?_
         · (intro w9 hC; clear hC; go_simp)
         · exact fun w9 hC => (Kplus w9).mono fun e w' ⟨he, hb⟩ => ⟨he, hC.1.below hb, hC.2.1.below hb, keepb hb hC.2.2⟩
         simp only [Act.put, List.setIfInBounds_toArray, List.set_cons_zero, List.set_cons_succ]
         refine wpQuiet_nil ?_
         simp only [putAll, Act.put, List.setIfInBounds_toArray, List.set_cons_zero, List.set_cons_succ]
        case fin =>
          intro W hC
          obtain ⟨hE, -, kE⟩ := hC
          obtain ⟨r0, r1, r2, r3, r4, r5⟩ := id hE
          simp only [putAll, Act.put, List.setIfInBounds_toArray, List.set_cons_zero, List.set_cons_succ]
          dsimp only [List.drop]
          have hE2 := hE.set t0 t1 t2
          have kE2 := bset3 kE (Nat.le_refl _) (.int .u64 t0) (.int .u64 t1) (.int .u64 t2)
          clear x0 x1 x2 hP hS hS' kB kB' Ksize Kplus
          go_wp2
          go_roundw
          case rel =>
            obtain ⟨e0, e1, e2⟩ := HT.out
            exact ⟨k + 1, by omega, by go_num, by rw [← e0, ← e1, ← e2]; exact hE2, kE2⟩
          case measure => simp [intOf]; omega
    · have hd : decide ((k : Int) < (m.length : Int)) = false := by simpa using hlt
      have HE : Hid (m.take k = m) := List.take_of_length_le (by omega)
      have hR := R1.below kB
      have hne : ¬ w1.heap.size = w.heap.size := by have := R1.lt; omega
      have hne' : ¬ w.heap.size = w1.heap.size := by omega
      rw [HE.out] at hS
      have HC : Hid (costV (sizN F m) = .agg #[.int .u64 (cost0 (sizN F m)), .int .u64 (cost1 (sizN F m)), .int .u64 (cost2 (sizN F m))]) := rfl
      revert hS HC
      generalize cost0 (sizN F m) = s0
      generalize cost1 (sizN F m) = s1
      generalize cost2 (sizN F m) = s2
      intro hS HC
      obtain ⟨r0, r1, r2, r3, r4, r5⟩ := id hR
      obtain ⟨q0, q1, q2, q3, q4, q5⟩ := id hS
      have kE := bset3 (keepb kB kB1) (Nat.le_refl _) (.int .u64 s0) (.int .u64 s1) (.int .u64 s2)
      obtain ⟨v0, v1, v2, -, -, -⟩ := hR.set s0 s1 s2
      clear hR hS kB R1
      go_wp2
      exact bodyPost_ret (v := .tuple #[.agg #[.int .u64 s0, .int .u64 s1, .int .u64 s2], .int .i64 0]) (by simp [results, Tryd.results27, go_sem, v0, v1, v2]) rfl ⟨by rw [HC.out], kE⟩
end Go.Proofs.YtkgfeegcdohkdaaDoor
/-
  What the calls of the law's has and some do.
-/
namespace Go.Proofs.YtkgfeegcdohkdaaDoor
open Go.RowKit
set_option linter.unusedSimpArgs false
set_option linter.unusedVariables false

/-- Has one of them the address? -/
def hasL (l : List (BitVec 128 × Int)) (y : BitVec 128) : Bool := l.any fun p => rhasB p.1 p.2 y
theorem has_drop (l : List (BitVec 128 × Int)) (y : BitVec 128) (k : Nat) (hk : k < l.length) : hasL (l.drop k) y = (rhasB l[k].1 l[k].2 y || hasL (l.drop (k + 1)) y) := by
  rw [List.drop_eq_getElem_cons hk]
  rfl
def HS (w : World) (b o : Nat) (px : BitVec 128) (pn : Int) (y : BitVec 128) (W : World) : Prop := (W.cell? ⟨b, o, none⟩ = some (.int .u64 (hI px)) ∧ W.cell? ⟨b, o + 1, none⟩ = some (.int .u64 (lI px)) ∧ W.cell? ⟨b, o + 2, none⟩ = some (.int .i64 pn)) ∧ At W w.heap.size y ∧ Below w.heap.size w W
theorem HS.below {w W W' : World} {b o : Nat} {px y : BitVec 128} {pn : Int} (h : HS w b o px pn y W) (hb : Below W.heap.size W W') : HS w b o px pn y W' := ⟨⟨keepc hb h.1.1, keepc hb h.1.2.1, keepc hb h.1.2.2⟩, h.2.1.below hb, keepb hb h.2.2⟩
theorem HS.all {w W : World} {b o : Nat} {px y : BitVec 128} {pn : Int} (h : HS w b o px pn y W) : W.cell? ⟨b, o, none⟩ = some (.int .u64 (hI px)) ∧ W.cell? ⟨b, o + 1, none⟩ = some (.int .u64 (lI px)) ∧ W.cell? ⟨b, o + 2, none⟩ = some (.int .i64 pn) ∧ W.cell? ⟨w.heap.size, 0, none⟩ = some (.int .u64 (hI y)) ∧ W.cell? ⟨w.heap.size, 1, none⟩ = some (.int .u64 (lI y)) ∧ Hid (HS w b o px pn y W) := ⟨h.1.1, h.1.2.1, h.1.2.2, h.2.1.1, h.2.1.2.1, h⟩
set_option maxHeartbeats 2000000 in
theorem lhas_any (v : Value) (l : List (BitVec 128 × Int)) (y : BitVec 128) (w : World) (hv : Rw w v l) (hl : l.length ≤ 1000000000) :
    Calls Tryd.prog 33 #[v, .agg #[.int .u64 (hI y), .int .u64 (lI y)]] w fun e w' => e = .returned (.bool (hasL l y)) ∧ Below w.heap.size w w' := by
  obtain ⟨ao, c, rfl, hv⟩ := hv
  have HV : Hid ((ao = none ∧ l = []) ∨ ∃ b off, ao = some ⟨b, off, none⟩ ∧ ∀ j u, (rowP l)[j]? = some u → w.cell? ⟨b, off + j, none⟩ = some u) := hv
  clear hv
  go_enter Tryd.func33, Tryd.ntmps33
  go_wp2_with fail
  have Y0 := at_new w w.heap.size y 24 rfl
  go_loopw [5] (fun i wr => ∃ k : Nat, k ≤ l.length ∧ i = .int .i64 k ∧ Hid (hasL (l.drop k) y = hasL l y) ∧ At wr w.heap.size y ∧ Below w.heap.size w wr) (fun i _ => l.length - (intOf i).toNat)
  case atStart => exact ⟨0, by omega, rfl, (rfl : hasL (l.drop 0) y = hasL l y), Y0, (Below.refl _ w).alloc (Nat.le_refl _) _⟩
  case round =>
    clear Y0
    obtain ⟨k, hk, rfl, hG, hY, hB⟩ := hrel
    by_cases hlt : (k : Int) < (l.length : Int)
    · have hks : k < l.length := by omega
      rcases HV.out with ⟨-, h⟩ | ⟨b, off, rfl, hc⟩
      · rw [h] at hks; simp at hks
      · obtain ⟨x0, x1, x2⟩ := rw_cells hc k hks
        have x0 := keepc hB x0
        have x1 := keepc hB x1
        have x2 := keepc hB x2
        have KC := fun w => rhas_any l[k].1 l[k].2 y w
        have hd := has_drop l y k hks
        have HD : Hid (hasL (l.drop k) y = (rhasB l[k].1 l[k].2 y || hasL (l.drop (k + 1)) y)) := hd
        clear hd hc HV
        revert KC HD
        generalize rhasB l[k].1 l[k].2 y = ce
        generalize l[k].1 = px at *
        generalize l[k].2 = pn at *
        intro KC HD
        obtain ⟨y0, y1, -, -, -⟩ := id hY
        go_wp2_with fail
        have hS : HS w b (off + k * 3) px pn y wr.drew := ⟨⟨x0, x1, x2⟩, hY, hB.drew⟩
        go_region_held3 (fun w' => w'.cell? ⟨b, off + k * 3, none⟩ = some (.int .u64 (hI px)) ∧ w'.cell? ⟨b, off + k * 3 + 1, none⟩ = some (.int .u64 (lI px)) ∧ w'.cell? ⟨b, off + k * 3 + 2, none⟩ = some (.int .i64 pn) ∧ w'.cell? ⟨w.heap.size, 0, none⟩ = some (.int .u64 (hI y)) ∧ w'.cell? ⟨w.heap.size, 1, none⟩ = some (.int .u64 (lI y)) ∧ Hid (HS w b (off + k * 3) px pn y w'))
          (first
            | exact hS.all
            | (obtain ⟨-, -, -, -, -, k9⟩ := ‹_ ∧ _ ∧ _ ∧ _ ∧ _ ∧ _›; exact (k9.out.below hb9).all))
          (first | (go_at_call 44; refine (KC _).mono ?_; rintro e w9 ⟨rfl, hb9⟩))
        obtain ⟨-, -, -, -, -, k9⟩ := ‹_ ∧ _ ∧ _ ∧ _ ∧ _ ∧ _›
        have kY := k9.out.2.1
        have kB := k9.out.2.2
        clear k9 hS KC x0 x1 x2 y0 y1
        have mk : IntKind.i64.wrap ((k : Int) + 1) = (k : Int) + 1 := by rw [IntKind.wrap_i64]; omega
        cases ce with
        | true =>
          have HE : Hid (hasL l y = true) := by show _ = _; rw [← hG.out, HD.out]; rfl
          go_wp2
          go_ret
          exact ⟨by rw [HE.out]; rfl, kB⟩
        | false =>
          go_wp2
          go_roundw
          case rel =>
            refine ⟨k + 1, by omega, by simp, ?_, kY, kB⟩
            show hasL (l.drop (k + 1)) y = hasL l y
            rw [← hG.out, HD.out]; simp
          case measure => simp [intOf]; omega
    · have hd : decide ((k : Int) < (l.length : Int)) = false := by simpa using hlt
      have HE : Hid (hasL l y = false) := by
        show _ = _
        rw [← hG.out, List.drop_eq_nil_of_le (by omega)]; rfl
      go_wp2
      go_ret
      exact ⟨by rw [HE.out]; rfl, hB⟩
end Go.Proofs.YtkgfeegcdohkdaaDoor
/-
  What the call of the law's some does.
-/
namespace Go.Proofs.YtkgfeegcdohkdaaDoor
open Go.RowKit
set_option linter.unusedSimpArgs false
set_option linter.unusedVariables false

/-- Right prefixes of a family, of words and lengths. -/
def someP (F : Int) (p : BitVec 128 × Int) : BitVec 128 × Int := (someW F p.1 p.2, p.2 % (F + 1))
def someL (F : Int) (l : List (BitVec 128 × Int)) : List (BitVec 128 × Int) := (l.take 200).map (someP F)
theorem some_take (F : Int) (l : List (BitVec 128 × Int)) (k : Nat) (hk : k < l.length) : (l.take (k + 1)).map (someP F) = (l.take k).map (someP F) ++ [(someW F l[k].1 l[k].2, l[k].2 % (F + 1))] := by
  rw [List.take_succ_eq_append_getElem hk, List.map_append]
  rfl
theorem own_belowP {W W' : World} {base n : Nat} {v : Value} {xs : List Value} (hb : Below W.heap.size W W') (h : Hid (W.ownsRow base 26 3 v n xs)) : Hid (W'.ownsRow base 26 3 v n xs) := own_below hb h.out
theorem some_end (F : Int) (l : List (BitVec 128 × Int)) (k : Nat) (h2 : k ≤ 200) (h : l.length ≤ k ∨ 200 ≤ k) : someL F l = (l.take k).map (someP F) := by
  unfold someL
  rcases h with h | h
  · rw [List.take_of_length_le (by omega), List.take_of_length_le h]
  · rw [show k = 200 by omega]
/-- A list that is handed in, in memory. -/
def Rv (W : World) (v : Value) (l : List (BitVec 128 × Int)) : Prop := ∃ ao c, v = .slice ao l.length c ∧ (l = [] ∨ ∃ b off, ao = some ⟨b, off, none⟩ ∧ ∀ j u, (rowP l)[j]? = some u → W.cell? ⟨b, off + j, none⟩ = some u)
theorem Rv.below {W W' : World} {v : Value} {l : List (BitVec 128 × Int)} (h : Rv W v l) (hb : Below W.heap.size W W') : Rv W' v l := by
  obtain ⟨ao, c, e, h⟩ := h
  refine ⟨ao, c, e, ?_⟩
  rcases h with h | ⟨b, off, e2, h⟩
  · exact .inl h
  · exact .inr ⟨b, off, e2, fun j u hj => keepc hb (h j u hj)⟩
set_option maxRecDepth 20000 in
set_option maxHeartbeats 4000000 in
theorem lsome_any (F : Int) (v : Value) (l : List (BitVec 128 × Int)) (w : World) (hv : Rv w v l) (h0 : 0 ≤ F) (h1 : F ≤ 128) :
    Calls Tryd.prog 30 #[.int .i64 F, v] w fun e w' => (∃ v', e = .returned v' ∧ w'.ownsRow w.heap.size 26 3 v' (someL F l).length (rowP (someL F l))) ∧ Below w.heap.size w w' := by
  obtain ⟨i0, hi, hz0, hz1, hz2⟩ := info_parts Tryd.infoP
  obtain ⟨ao, c, rfl, hv⟩ := hv
  have HV : Hid (l = [] ∨ ∃ b off, ao = some ⟨b, off, none⟩ ∧ ∀ j u, (rowP l)[j]? = some u → w.cell? ⟨b, off + j, none⟩ = some u) := hv
  clear hv
  go_enter Tryd.func30, Tryd.ntmps30
  go_wp2_with fail
  go_loopw [5, 6] (fun dv i wr => ∃ k : Nat, k ≤ l.length ∧ k ≤ 200 ∧ i = .int .i64 k ∧ wr.ownsRow w.heap.size 26 3 dv k (rowP ((l.take k).map (someP F))) ∧ Below w.heap.size w wr) (fun _ i _ => l.length - (intOf i).toNat)
  case atStart => exact ⟨0, by omega, by omega, rfl, by simpa [rowP] using World.ownsRow_nil _ _ _ _, Below.refl _ _⟩
  case round =>
    obtain ⟨k, hk, hk2, rfl, hown, kB⟩ := hrel
    by_cases hlt : (k : Int) < (l.length : Int) ∧ (k : Int) < 200
    · obtain ⟨hlt, hl2⟩ := hlt
      have hks : k < l.length := by omega
      rcases HV.out with h | ⟨b, off, rfl, hc⟩
      · rw [h] at hks; simp at hks
      · obtain ⟨z0, z1, z2⟩ := rw_cells hc k hks
        have KS := fun w => some_any F l[k].1 l[k].2 w h0 h1
        have HT : Hid ((l.take (k + 1)).map (someP F) = (l.take k).map (someP F) ++ [(someW F l[k].1 l[k].2, l[k].2 % (F + 1))]) := some_take F l k hks
        clear HV hc
        revert KS HT
        generalize someW F l[k].1 l[k].2 = sx
        generalize l[k].2 % (F + 1) = sn
        intro KS HT
        generalize l[k].1 = px at *
        generalize l[k].2 = pn at *
        have HA : Hid (∀ W, Below w.heap.size w W → W.cell? ⟨b, off + k * 3, none⟩ = some (.int .u64 (hI px)) ∧ W.cell? ⟨b, off + k * 3 + 1, none⟩ = some (.int .u64 (lI px)) ∧ W.cell? ⟨b, off + k * 3 + 2, none⟩ = some (.int .i64 pn) ∧ Below w.heap.size w W) := fun W hb => ⟨keepc hb z0, keepc hb z1, keepc hb z2, hb⟩
        obtain ⟨x0, x1, x2, -⟩ := HA.out wr kB
        have hown : Hid (wr.drew.ownsRow w.heap.size 26 3 u5 k (rowP ((l.take k).map (someP F)))) := hown.drew
        have h47 : (k + 1) * 24 ≤ 140737488355328 := by omega
        have h63 : k + 1 ≤ maxLen := by unfold maxLen; omega
        clear z0 z1 z2
        go_wp2_with fail
        have hbl := kB.drew
        go_region_held3 (fun w' => w'.cell? ⟨b, off + k * 3, none⟩ = some (.int .u64 (hI px)) ∧ w'.cell? ⟨b, off + k * 3 + 1, none⟩ = some (.int .u64 (lI px)) ∧ w'.cell? ⟨b, off + k * 3 + 2, none⟩ = some (.int .i64 pn) ∧ Below w.heap.size w w')
          (first
            | exact HA.out _ hbl
            | (obtain ⟨-, -, -, k9⟩ := ‹_ ∧ _ ∧ _ ∧ Below _ _ _›; exact HA.out _ (k9.grown hgrow k9.size (fun z hz => (hown.out.lt z hz).1)))
            | (obtain ⟨-, -, -, k9⟩ := ‹_ ∧ _ ∧ _ ∧ Below _ _ _›; exact HA.out _ (k9.alloc k9.size _))
            | (obtain ⟨-, -, -, k9⟩ := ‹_ ∧ _ ∧ _ ∧ Below _ _ _›; exact HA.out _ k9)
            | (obtain ⟨-, -, -, k9⟩ := ‹_ ∧ _ ∧ _ ∧ Below _ _ _›; exact HA.out _ (keepb hb0 k9)))
          (first
            | (go_at_call 14; refine (KS _).mono ?_; rintro e w0 ⟨rfl, hb0⟩; have hown := own_belowP hb0 hown)
            | (refine step_append_lies _ rfl (.tmp 17) (.tmp 30) 29 rfl w.heap.size 26 i0 (.agg #[.int .u64 0, .int .u64 0, .int .i64 0]) 3 24 Tryd.underlying29 hi hz0 hz1 hz2 rfl (by decide) _ _ _ rfl (hown.out.alloc _) _ 1 1 [.int .u64 (hI sx), .int .u64 (lI sx), .int .i64 sn] rfl rfl (newsP _ _ _ _ _) (threeP _ _ _) (by decide) h63 h47 (by have := (‹_ ∧ _ ∧ _ ∧ Below _ _ _›).2.2.2.size; simp at this; simp; omega) _ rfl ?_; intro g cap w4 hown4 hgrow hat hlt4))
        obtain ⟨-, -, -, k9⟩ := ‹_ ∧ _ ∧ _ ∧ Below _ _ _›
        have HO : Hid (w4.ownsRow w.heap.size 26 3 (.slice (some ⟨g, 0, none⟩) (k + 1) cap) (k + 1) (rowP ((l.take (k + 1)).map (someP F)))) := by
          show World.ownsRow _ _ _ _ _ _ _
          rw [HT.out, rowP_one]
          exact hown4
        clear hown4 hgrow hat hlt4 hown HT HA x0 x1 x2 hb0 hbl KS kB
        have mk : IntKind.i64.wrap ((k : Int) + 1) = (k : Int) + 1 := by rw [IntKind.wrap_i64]; omega
        go_wp2
        go_roundw
        case rel => exact ⟨k + 1, by omega, by omega, by go_num, HO.out, k9⟩
        case measure => simp [intOf]; omega
    · have HE : Hid (someL F l = (l.take k).map (someP F)) := some_end F l k hk2 (by omega)
      have HK : Hid ((someL F l).length = k) := by
        show _ = _
        rw [HE.out]; simp; omega
      have hown : Hid (World.ownsRow _ _ _ _ _ _ _) := hown
      by_cases hd : (k : Int) < (l.length : Int)
      · have hd2 : decide ((k : Int) < 200) = false := by simp; omega
        clear hlt
        go_wp2
        go_ret
        refine ⟨⟨_, rfl, ?_⟩, kB⟩
        rw [HK.out, HE.out]
        exact hown.out
      · have hd2 : decide ((k : Int) < (l.length : Int)) = false := by simpa using hd
        clear hlt
        go_wp2
        go_ret
        refine ⟨⟨_, rfl, ?_⟩, kB⟩
        rw [HK.out, HE.out]
        exact hown.out
set_option maxHeartbeats 1000000 in
theorem within4_any (a n : Int) (w : World) (h0 : 0 < n) (h1 : n ≤ 9223372036854775807) :
    Calls Tryd.prog 38 #[.int .i64 a, .int .i64 n] w fun e w' => e = .returned (.int .i64 (a % n)) ∧ w' = w := by
  have b1 := Int.emod_nonneg a (b := n) (by omega)
  have b2 := Int.emod_lt_of_pos a h0
  have hn0 : ¬ n = 0 := by omega
  have hnb : (n == 0) = false := by simp; omega
  rcases tmod_ways a n h0 with ⟨c, e⟩ | ⟨c, e⟩
  · have hw : IntKind.i64.wrap (a.tmod n) = a.tmod n := by rw [IntKind.wrap_i64]; omega
    have hw2 : IntKind.i64.wrap (a.tmod n + n) = a.tmod n + n := by rw [IntKind.wrap_i64]; omega
    rw [← e]
    clear e b1 b2
    go_enter Tryd.func38, Tryd.ntmps38
    go_wp2
    go_ret
    exact ⟨rfl, rfl⟩
  · have hw : IntKind.i64.wrap (a.tmod n) = a.tmod n := by rw [IntKind.wrap_i64]; omega
    rw [← e]
    clear e b1 b2
    go_enter Tryd.func38, Tryd.ntmps38
    go_wp2
    go_ret
    exact ⟨rfl, rfl⟩
end Go.Proofs.YtkgfeegcdohkdaaDoor
/-
  The law RangeTurned.
-/
namespace Go.Proofs.YtkgfeegcdohkdaaDoor
open Go.RowKit
set_option linter.unusedSimpArgs false
set_option linter.unusedVariables false

/-- What the call of Merge does with a list of right prefixes, whosever it is. -/
theorem merge_rp (F : Int) (v : Value) (l : List (BitVec 128 × Int)) (w : World) (hv : Rw w v l) (hl : l.length ≤ 1000000000) (ff : fam F = true) (hR : ∀ x ∈ l, Rp F x) :
    Calls Tryd.prog 22 #[.int .i64 F, v] w fun e w' => (∃ v', e = .returned (.tuple #[v', .int .i64 0]) ∧ Lies w' v' (ptAll [] (sortL l)).reverse) ∧ Below w.heap.size w w' := by
  refine (merge_any F v l w hv hl (chk_rp F l ff hR)).mono ?_
  rintro e w' ⟨⟨v', rfl, h⟩, hb⟩
  exact ⟨⟨v', rfl, _, by rw [List.length_reverse]; exact h⟩, hb⟩
theorem lies_rw {W : World} {v : Value} {l : List (BitVec 128 × Int)} (h : Lies W v l) : Rw W v l := by
  obtain ⟨b, h⟩ := h
  exact own_rw h
theorem count_rp (F : Int) (v : Value) (l : List (BitVec 128 × Int)) (w : World) (hv : Rw w v l) (hl : l.length ≤ 1000000000) (ff : fam F = true) (hR : ∀ x ∈ l, Rp F x) :
    Calls Tryd.prog 27 #[.int .i64 F, v] w fun e w' => e = .returned (.tuple #[costV (sizN F (ptAll [] (sortL l)).reverse), .int .i64 0]) ∧ Below w.heap.size w w' := by
  have hF := fam_le ff
  have hm := ptAll_rp hF (sortL l) [] (fun a ha => by cases ha) (fun a ha => hR a (sortL_mem.mp ha))
  have hle := ptAll_le (sortL l) []
  rw [sortL_len] at hle
  refine count_any F v l _ w hF (by rw [List.length_reverse]; simp at hle; omega) (fun p hp => ?_) (fun w hv => ?_) hv
  · have := hm p (by simpa using hp)
    exact ⟨this.1, this.2.1⟩
  · refine (merge_rp F v l w hv hl ff hR).mono ?_
    rintro e w' ⟨⟨v', rfl, h⟩, hb⟩
    exact ⟨⟨v', rfl, lies_rw h⟩, hb⟩
theorem stopHere {P : Program} {w : World} {ops : Array Oper} {rest : List Oper} {a : Act} {Q : Exit → Act → World → Prop} {o : Oper} (h : Hid (wpList P ops Q (o :: rest) a w)) : wpList P ops Q (o :: rest) a w := h.out
set_option maxRecDepth 20000 in
set_option maxHeartbeats 4000000 in
theorem rangeTurned_any (six : Bool) (v : Value) (l : List (BitVec 128 × Int)) (n : Int) (w : World) (hT : Tab w) (hv : Rv w v l) :
    Calls Tryd.prog 8 #[.bool six, v, .int .i64 n] w fun e w' => e = .returned (.bool true) ∧ Below w.heap.size w w' := by
  obtain ⟨i0, hi, hz0, hz1, hz2⟩ := info_parts Tryd.infoP
  have KF := fun w => family3_any six w
  obtain ⟨f0, f1⟩ := famZ_bd six
  have ff := famZ_fam six
  generalize famZ six = F at *
  have KN := known4_any w hT
  have KS := fun w hv => lsome_any F v l w hv (by omega) f1
  have HV : Hid (Rv w v l) := hv
  clear hv
  go_enter Tryd.func8, Tryd.ntmps8
  go_wp2_with fail
  refine KN.mono ?_
  rintro e w1 ⟨rfl, kB⟩
  clear KN
  go_wp2_with fail
  refine (KF _).mono ?_
  rintro e w2 ⟨rfl, rfl⟩
  clear KF
  go_wp2_with fail
  refine (KS _ (HV.out.below kB)).mono ?_
  rintro e w2 ⟨⟨v2, rfl, hrow⟩, hb⟩
  have kB2 := keepb hb kB
  have hL : (someL F l).length ≤ 200 := by unfold someL; simp; omega
  have HR : Hid (∀ x ∈ someL F l, Rp F x) := by
    intro x hx
    unfold someL at hx
    obtain ⟨y, -, rfl⟩ := List.mem_map.mp hx
    exact some_rt F y.1 y.2 (by omega)
  have hown := own_base hrow kB.size
  clear hb KS hrow kB HV
  generalize someL F l = L at *
  have HO : Hid (w2.ownsRow w.heap.size 26 3 v2 L.length (rowP L)) := hown
  obtain ⟨ao, c, rfl⟩ := own_form hown
  clear hown
  have KW := fun w => within4_any n ((L.length : Int) + 1) w (by omega) (by omega)
  have mL : IntKind.i64.wrap ((L.length : Int) + 1) = (L.length : Int) + 1 := by rw [IntKind.wrap_i64]; omega
  go_wp2_with fail
  refine (KW _).mono ?_
  rintro e w3 ⟨rfl, rfl⟩
  clear KW
  have b1 := Int.emod_nonneg n (b := (L.length : Int) + 1) (by omega)
  have b2 := Int.emod_lt_of_pos n (b := (L.length : Int) + 1) (by omega)
  generalize n % ((L.length : Int) + 1) = kk at *
  obtain ⟨k, rfl⟩ : ∃ k : Nat, kk = (k : Int) := ⟨kk.toNat, by omega⟩
  have hk : k ≤ L.length := by omega
  clear b1 b2
  go_wp2_with (first
    | (refine wpList_slice_from rfl _ _ _ rfl 26 i0 3 Tryd.underlying29 hi hz1 (.slice ao L.length c) L.length (rowP L) rfl (own_row HO.out) k rfl hk ?_; intro s1 hs1; have HS : Hid (Row _ _ _ _ _) := hs1; clear hs1)
    | (at_builtin; apply stopHere))
  refine (show wpList _ _ _ _ _ _ from ?_)
  refine wpList_append_row rfl _ _ 29 rfl w3.heap.size 26 i0 (.agg #[.int .u64 0, .int .u64 0, .int .i64 0]) 3 24 Tryd.underlying29 hi hz0 hz1 hz2 rfl (by decide) (.slice none 0 0) 0 [] rfl (World.ownsRow_nil _ _ _ _) s1 _ _ rfl HS.out (by rw [← rowP_dropL]; exact rowP_cell _) (by unfold maxLen; omega) (by omega) (Nat.le_refl _) ?_
  intro mo mc w4 hm hgrow
  have e1 : 0 + (L.length - k) = (L.drop k).length := by rw [List.length_drop]; omega
  rw [List.nil_append, ← rowP_dropL, e1] at hm
  rw [e1]
  have kB4 : Below w3.heap.size w3 w4 := (Below.refl _ _).grown hgrow (Nat.le_refl _) (fun z hz => by cases hz)
  have HM : Hid (w4.ownsRow w3.heap.size 26 3 (.slice mo (L.drop k).length mc) (L.drop k).length (rowP (L.drop k))) := hm
  have HO4 : Hid (w4.ownsRow w.heap.size 26 3 (.slice ao L.length c) L.length (rowP L)) := own_below kB4 HO.out
  clear hm hgrow e1 HS
  have hdl : (L.drop k).length = L.length - k := List.length_drop
  have htl : (L.take k).length = k := by rw [List.length_take]; omega
  have HD : Hid ((L.drop k).length + k = (L.drop k ++ L.take k).length ∧ rowP (L.drop k) ++ rowP (L.take k) = rowP (L.drop k ++ L.take k)) := ⟨by rw [List.length_append, htl], (rowP_app _ _).symm⟩
  have hbd : (L.drop k).length + k ≤ maxLen ∧ ((L.drop k).length + k) * 24 ≤ 140737488355328 := by unfold maxLen; omega
  have HX : Hid ((∀ x, x ∈ L.drop k ++ L.take k ↔ x ∈ L) ∧ (L.drop k ++ L.take k).length = L.length) := by
    refine ⟨fun x => ?_, by rw [List.length_append, hdl, htl]; omega⟩
    rw [List.mem_append, Or.comm, ← List.mem_append, List.take_append_drop]
  clear hdl htl
  revert HD HX HM hbd
  generalize L.drop k ++ L.take k = M0
  generalize (L.drop k).length = dl
  generalize rowP (L.drop k) = dr
  intro HM HD hbd HX
  go_wp2_with (first
    | (refine wpList_slice_to rfl _ _ _ rfl 26 i0 3 Tryd.underlying29 hi hz1 (.slice ao L.length c) L.length (rowP L) rfl (own_row HO4.out) k rfl hk ?_; intro s2 hs2; have HS : Hid (Row _ _ _ _ _) := hs2; clear hs2)
    | (at_builtin; apply stopHere))
  refine (show wpList _ _ _ _ _ _ from ?_)
  refine wpList_append_row rfl _ _ 29 rfl w3.heap.size 26 i0 (.agg #[.int .u64 0, .int .u64 0, .int .i64 0]) 3 24 Tryd.underlying29 hi hz0 hz1 hz2 rfl (by decide) (.slice mo dl mc) dl dr rfl HM.out s2 _ _ rfl HS.out (by rw [← rowP_takeL]; exact rowP_cell _) hbd.1 hbd.2 kB4.size ?_
  intro mo' mc' w5 hm hgrow
  rw [← rowP_takeL, HD.out.2, HD.out.1] at hm
  rw [HD.out.1]
  have kB5 : Below w3.heap.size w3 w5 := kB4.grown hgrow kB4.size (fun z hz => (HM.out.lt z hz).1)
  have HM5 : Hid (w5.ownsRow w3.heap.size 26 3 (.slice mo' M0.length mc') M0.length (rowP M0)) := hm
  clear hm hgrow HS HD HM HO4 kB4 hbd
  have mL1 : IntKind.i64.wrap ((L.length : Int) - 1) = (L.length : Int) - 1 := by rw [IntKind.wrap_i64]; omega
  go_wp2_with fail
  go_loopw [8, 10] (fun mv i wr => ∃ (E : List (BitVec 128 × Int)) (j : Int), i = .int .i64 j ∧ -2 ≤ j ∧ 2 * (E.length : Int) + j = (L.length : Int) - 1 ∧ (∀ x ∈ E, x ∈ L) ∧ wr.ownsRow w3.heap.size 26 3 mv (M0 ++ E).length (rowP (M0 ++ E)) ∧ Below w3.heap.size w3 wr) (fun _ i _ => (intOf i + 2).toNat)
  case atStart => exact ⟨[], (L.length : Int) - 1, rfl, by omega, by simp, fun x hx => by (cases hx), by rw [List.append_nil]; exact HM5.out, kB5⟩
  case round =>
    obtain ⟨E, j, rfl, hj0, hj1, hE, hown, kB⟩ := hrel
    have hml : (M0 ++ E).length ≤ 400 := by rw [List.length_append, HX.out.2]; omega
    have HE : Hid (∀ x ∈ E, x ∈ L) := hE
    clear hE HM5 kB5
    by_cases hj : 0 ≤ j
    · obtain ⟨q, rfl⟩ : ∃ q : Nat, j = (q : Int) := ⟨j.toNat, by omega⟩
      have hq : q < L.length := by omega
      rcases HO.out.2 with ⟨e, h⟩ | ⟨g, cap, cur, e, -⟩
      · omega
      · injection e with e1 e2 e3
        subst e1
        subst e3
        clear e2
        obtain ⟨x0, x1, x2⟩ := row_cells HO.out rfl q hq
        have x0 := keepc kB x0
        have x1 := keepc kB x1
        have x2 := keepc kB x2
        have HN : Hid (L[q] ∈ L ∧ rowP (M0 ++ (E ++ [L[q]])) = rowP (M0 ++ E) ++ [.int .u64 (hI L[q].1), .int .u64 (lI L[q].1), .int .i64 L[q].2]) := ⟨List.getElem_mem hq, by rw [← List.append_assoc]; exact rowP_one _ _ _⟩
        have HN2 : Hid ((L[q].1, L[q].2) = L[q]) := rfl
        have hle : (M0 ++ (E ++ [L[q]])).length = (M0 ++ E).length + 1 := by simp; omega
        revert HN HN2 hle
        generalize L[q] = lq at *
        generalize lq.1 = px at *
        generalize lq.2 = pn at *
        intro HN HN2 hle
        generalize (M0 ++ E).length = ml at *
        have h47 : (ml + 1) * 24 ≤ 140737488355328 := by omega
        have h63 : ml + 1 ≤ maxLen := by unfold maxLen; omega
        have mk : IntKind.i64.wrap ((q : Int) - 2) = (q : Int) - 2 := by rw [IntKind.wrap_i64]; omega
        have hownH : Hid (wr.ownsRow w3.heap.size 26 3 u8 ml (rowP (M0 ++ E))) := hown
        obtain ⟨mo2, mc2, rfl⟩ := own_form hown
        clear hown
        go_wp2_with (at_builtin; apply stopHere)
        refine (show wpList _ _ _ _ _ _ from ?_)
        refine wpList_append_lies _ rfl _ _ 29 rfl w3.heap.size 26 i0 (.agg #[.int .u64 0, .int .u64 0, .int .i64 0]) 3 24 Tryd.underlying29 hi hz0 hz1 hz2 rfl (by decide) _ _ _ rfl (hownH.out.alloc _) ⟨wr.heap.size, 0, none⟩ 1 1 [.int .u64 (hI px), .int .u64 (lI px), .int .i64 pn] rfl rfl (newsP _ _ _ _ _) (threeP _ _ _) (by decide) h63 h47 (by have := kB.size; simp; omega) _ rfl ?_
        intro g4 cap4 w6 hown4 hgrow hat hlt4
        have kB6 : Below w3.heap.size w3 w6 := (kB.alloc kB.size _).grown hgrow (by have := kB.size; simp; omega) (fun z hz => (hownH.out.lt z hz).1)
        have HO6 : Hid (w6.ownsRow w3.heap.size 26 3 (.slice (some ⟨g4, 0, none⟩) (ml + 1) cap4) (ml + 1) (rowP (M0 ++ (E ++ [lq])))) := by
          show World.ownsRow _ _ _ _ _ _ _
          rw [HN.out.2]
          exact hown4
        clear hown4 hgrow hat hlt4 x0 x1 x2 hownH kB
        go_wp2
        go_roundw
        case rel =>
          refine ⟨E ++ [lq], (q : Int) - 2, by go_num, by omega, by simp; omega, ?_, by rw [hle]; exact HO6.out, kB6⟩
          intro x hx
          rcases List.mem_append.mp hx with hx | hx
          · exact HE.out x hx
          · rw [List.mem_singleton.mp hx]; exact HN.out.1
        case measure => simp [intOf]; omega
    · have hd : decide (0 ≤ j) = false := by simpa using hj
      have HMX : Hid ((∀ x, x ∈ L ↔ x ∈ M0 ++ E) ∧ (∀ x ∈ M0 ++ E, Rp F x)) := by
        have a : ∀ x, x ∈ L ↔ x ∈ M0 ++ E := fun x => by
          rw [List.mem_append, HX.out.1 x]
          exact ⟨.inl, fun h => h.elim id (HE.out x)⟩
        exact ⟨a, fun x hx => HR.out x ((a x).mpr hx)⟩
      have HME : Hid (ptAll [] (sortL L) = ptAll [] (sortL (M0 ++ E))) := merge_same f1 L (M0 ++ E) HMX.out.1 HR.out
      have hownH : Hid (wr.ownsRow w3.heap.size 26 3 u8 (M0 ++ E).length (rowP (M0 ++ E))) := hown
      obtain ⟨mo2, mc2, rfl⟩ := own_form hown
      have K1 := fun w hv => merge_rp F (.slice ao L.length c) L w hv (by omega) ff HR.out
      have K2 := fun w hv => merge_rp F (.slice mo2 (M0 ++ E).length mc2) (M0 ++ E) w hv (by omega) ff HMX.out.2
      have K3 := fun w hv => count_rp F (.slice ao L.length c) L w hv (by omega) ff HR.out
      have K4 := fun w hv => count_rp F (.slice mo2 (M0 ++ E).length mc2) (M0 ++ E) w hv (by omega) ff HMX.out.2
      rw [← HME.out] at K2 K4
      have HL : Hid (Rw wr (.slice ao L.length c) L) := own_rw (own_below kB HO.out)
      have HM : Hid (Rw wr (.slice mo2 (M0 ++ E).length mc2) (M0 ++ E)) := own_rw hownH.out
      have hgl : (ptAll [] (sortL L)).reverse.length ≤ 4611686018427387904 := by
        have := ptAll_le (sortL L) []
        rw [sortL_len] at this
        rw [List.length_reverse]
        simp at this
        omega
      have kB7 : Below w.heap.size w wr := kB2.trans (kB.mono kB2.size)
      clear hown hownH HMX HME HE HX HR HO kB kB2 hj hj0 hj1
      generalize M0 ++ E = M at *
      revert K1 K2 K3 K4 hgl
      generalize (ptAll [] (sortL L)).reverse = G
      unfold costV
      generalize cost0 (sizN F G) = c0
      generalize cost1 (sizN F G) = c1
      generalize cost2 (sizN F G) = c2
      intro K1 K3 hgl K2 K4
      go_wp2_with fail
      refine (K1 _ HL.out).mono ?_
      rintro e v1 ⟨⟨r1, rfl, hr1⟩, hb⟩
      have HM := HM.out.below hb
      have HL := HL.out.below hb
      have HM : Hid (Rw v1 (.slice mo2 M.length mc2) M) := HM
      have HL : Hid (Rw v1 (.slice ao L.length c) L) := HL
      have kB8 := keepb hb kB7
      have HG : Hid (Lies v1 r1 G) := hr1
      clear hb K1 hr1 kB7
      go_wp2_with fail
      refine (K2 _ HM.out).mono ?_
      rintro e v2 ⟨⟨r2, rfl, hr2⟩, hb⟩
      have HM : Hid (Rw v2 (.slice mo2 M.length mc2) M) := HM.out.below hb
      have HL : Hid (Rw v2 (.slice ao L.length c) L) := HL.out.below hb
      have kB9 := keepb hb kB8
      have HG : Hid (Lies v2 r1 G) := HG.out.below hb
      have HG2 : Hid (Lies v2 r2 G) := hr2
      clear hb K2 hr2 kB8
      go_wp2_with fail
      refine (K3 _ HL.out).mono ?_
      rintro e v3 ⟨rfl, hb⟩
      have HM : Hid (Rw v3 (.slice mo2 M.length mc2) M) := HM.out.below hb
      have kB10 := keepb hb kB9
      have HG : Hid (Lies v3 r1 G) := HG.out.below hb
      have HG2 : Hid (Lies v3 r2 G) := HG2.out.below hb
      clear hb K3 kB9 HL
      go_wp2_with fail
      have hb := bl1 v3 (.cells #[.int .u64 c0, .int .u64 c1, .int .u64 c2] 56)
      have A1 := atc_new v3 v3.heap.size c0 c1 c2 56 rfl
      have kB11 := keepb hb kB10
      refine (K4 _ (HM.out.below hb)).mono ?_
      rintro e v4 ⟨rfl, hb4⟩
      have HG : Hid (Lies v4 r1 G) := (HG.out.below hb).below hb4
      have HG2 : Hid (Lies v4 r2 G) := (HG2.out.below hb).below hb4
      have A1 := A1.below hb4
      have kB12 := keepb hb4 kB11
      clear hb hb4 K4 kB10 kB11 HM
      have hb := bl1 v4 (.cells #[.int .u64 c0, .int .u64 c1, .int .u64 c2] 56)
      have A2 := atc_new v4 v4.heap.size c0 c1 c2 56 rfl
      have A1 := A1.below hb
      have kB13 := keepb hb kB12
      have KS := same_any r1 r2 G _ (HG.out.below hb) (HG2.out.below hb) hgl
      clear HG HG2 kB12 hb
      have HA : Hid (AtC (v4.alloc (.cells #[.int .u64 c0, .int .u64 c1, .int .u64 c2] 56)) v3.heap.size c0 c1 c2 ∧ AtC (v4.alloc (.cells #[.int .u64 c0, .int .u64 c1, .int .u64 c2] 56)) v4.heap.size c0 c1 c2 ∧ Below w.heap.size w (v4.alloc (.cells #[.int .u64 c0, .int .u64 c1, .int .u64 c2] 56))) := ⟨A1, A2, kB13⟩
      clear A1 A2 kB13
      go_wp2_with fail
      refine KS.mono ?_
      rintro e v5 ⟨rfl, hb⟩
      obtain ⟨A1, A2, kB⟩ := HA.out
      obtain ⟨r0, r1', r2', -, -, -⟩ := A1.below hb
      obtain ⟨q0, q1, q2, -, -, -⟩ := A2.below hb
      have kB14 := keepb hb kB
      clear hb KS HA A1 A2 kB
      have he := fun w => eqC_run c0 c1 c2 w
      go_wp2
      go_ret
      exact ⟨rfl, kB14⟩
end Go.Proofs.YtkgfeegcdohkdaaDoor
/-
  How a prefix that is handed in reads as data.
-/
namespace Go.Proofs.YtkgfeegcdohkdaaDoor
open Go.ChangeShapes Go.WideShapes Go.ChangeAt Go.RowKit Go.Joins
set_option linter.unusedSimpArgs false
set_option linter.unusedVariables false

theorem Tryd.cellsW : Tryd.prog.cellsOf 24 = 2 := by kernel_rfl
theorem Tryd.cellsP : Tryd.prog.cellsOf 26 = 3 := by kernel_rfl
theorem Tryd.cellsI : Tryd.prog.cellsOf 3 = 1 := by kernel_rfl
theorem Tryd.cellsU : Tryd.prog.cellsOf 22 = 1 := by kernel_rfl
section
variable {H : Type} {enc : TypeId × Value → H} {w : World} {base : Nat} {spare : Nat → Bool} {held : Bool}
set_option maxRecDepth 100000 in
theorem open_pfx {r : Reach} {b0 : Nat} {v : Value} {d : DataW H} {p : List MemPlace} (hv : Value.okWide Tryd.prog w r b0 26 v) (h : DataW.Trod enc Tryd.prog w base spare held 26 v d p) :
    ∃ a b n : Int, v = .agg #[.int .u64 a, .int .u64 b, .int .i64 n] ∧ d = .agg [.agg [.lit (.int .u64 a), .lit (.int .u64 b)], .lit (.int .i64 n)] ∧ p = [] ∧ (Lit.int .u64 a).wf = true ∧ (Lit.int .u64 b).wf = true ∧ (Lit.int .i64 n).wf = true := by
  obtain ⟨cs, rfl, hsz⟩ := okWide_struct Tryd.underlying26 hv
  obtain ⟨c0, c1, c2, rfl⟩ := array3 (hsz.trans Tryd.cellsP)
  obtain ⟨fuel, hf⟩ := h
  obtain ⟨y0, y1, n, hx, _, h0, h1⟩ := trod_struct2 Tryd.underlying26 hf
  have h0' : DataW.trod enc Tryd.prog w base spare held n 24 [c0, c1] = some y0 := by simpa [Value.cells, Tryd.cellsW] using h0
  have h1' : DataW.trod enc Tryd.prog w base spare held n 3 [c2] = some y1 := by simpa [Value.cells, Tryd.cellsI] using h1
  obtain ⟨u0, u1, m, hu, _, g0, g1⟩ := trod_struct2 Tryd.underlying24 h0'
  have g0' : DataW.trod enc Tryd.prog w base spare held m 22 [c0] = some u0 := by simpa [Value.cells, Tryd.cellsU] using g0
  have g1' : DataW.trod enc Tryd.prog w base spare held m 22 [c1] = some u1 := by simpa [Value.cells, Tryd.cellsU] using g1
  obtain ⟨a, ea, rfl, wa⟩ := DataW.trod_int Tryd.underlying22 g0'
  obtain ⟨b, eb, rfl, wb⟩ := DataW.trod_int Tryd.underlying22 g1'
  obtain ⟨k, ek, rfl, wk⟩ := DataW.trod_int Tryd.underlying3 h1'
  simp at ea eb ek
  subst ea eb ek hu
  simp only [Prod.mk.injEq] at hx
  exact ⟨a, b, k, rfl, hx.1, by simpa using hx.2, wa, wb, wk⟩
set_option maxRecDepth 100000 in
theorem shut_pfx {a b n : Int} (wa : (Lit.int .u64 a).wf = true) (wb : (Lit.int .u64 b).wf = true) (wn : (Lit.int .i64 n).wf = true) :
    DataW.Trod enc Tryd.prog w base spare held 26 (.agg #[.int .u64 a, .int .u64 b, .int .i64 n]) (.agg [.agg [.lit (.int .u64 a), .lit (.int .u64 b)], .lit (.int .i64 n)]) [] := by
  have f : ∀ {z : Int}, (Lit.int .u64 z).wf = true → DataW.trod enc Tryd.prog w base spare held 1 22 [.int .u64 z] = some (.lit (.int .u64 z), []) := fun hz => by simp [DataW.trod, Tryd.underlying22, hz]
  have g : DataW.trod enc Tryd.prog w base spare held 2 3 [.int .i64 n] = some (.lit (.int .i64 n), []) := by simp [DataW.trod, Tryd.underlying3, wn]
  have s : DataW.trod enc Tryd.prog w base spare held 2 24 [.int .u64 a, .int .u64 b] = some (.agg [.lit (.int .u64 a), .lit (.int .u64 b)], []) := by
    have := trod_struct2_mk (enc := enc) (w := w) (base := base) (spare := spare) (held := held) (n := 1) (cs := [.int .u64 a, .int .u64 b]) Tryd.underlying24 (by simp [Tryd.cellsW]) (by simpa [Tryd.cellsU] using f wa) (by simpa [Tryd.cellsU] using f wb)
    simpa using this
  have := trod_struct2_mk (enc := enc) (w := w) (base := base) (spare := spare) (held := held) (n := 2) (cs := [.int .u64 a, .int .u64 b, .int .i64 n]) Tryd.underlying26 (by simp [Tryd.cellsP]) (by simpa [Tryd.cellsW] using s) (by simpa [Tryd.cellsI] using g)
  exact ⟨3, by simpa [Value.cells] using this⟩
end
end Go.Proofs.YtkgfeegcdohkdaaDoor
