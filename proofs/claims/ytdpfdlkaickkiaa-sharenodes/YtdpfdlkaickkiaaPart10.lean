/-
  Part 10 of the proof: 19 texts, one behind the other.
-/
import Derived.Test.YtdpfdlkaickkiaaPart9
import Derived.Test.YtdpfdlkaickkiaaPart5
import Derived.Test.YtdpfdlkaickkiaaPart4
import Derived.Test.YtdpfdlkaickkiaaPart3
import Derived.OwnWalkIn
import Derived.Deep.AppendLies
namespace Go.Proofs.Ytdpfdlkaickkiaa
open Go.RowKit
set_option linter.unusedSimpArgs false
set_option linter.unusedVariables false

structure Bv where
  a : Int
  t : Int
  vs : Value
  ve : Value
theorem own_put18 {W : World} {base e size n g cap j : Nat} {xs : List Value} (h : W.ownsRow base e size (.slice (some ⟨g, 0, none⟩) n cap) n xs) (u : Value) (hj : j < n * size) : (W.setCell ⟨g, j, none⟩ u).ownsRow base e size (.slice (some ⟨g, 0, none⟩) n cap) n (xs.set j u) := by
  obtain ⟨h1, h2⟩ := h
  rcases h2 with ⟨h2, -⟩ | ⟨g', cap', cur, e0, hb, hg, hn, hm, hs, ht⟩
  · cases h2
  · injection e0 with e1 e2 e3
    injection e1 with e1
    injection e1 with e1
    subst e1 e3
    refine ⟨by simpa using h1, .inr ⟨g, cap, cur.setIfInBounds j u, rfl, hb, set_16 hg u, hn, hm, by simpa using hs, ?_⟩⟩
    rw [Array.toList_setIfInBounds, List.take_set, ht]
theorem own_some18 {W : World} {base e size n : Nat} {v : Value} {xs : List Value} (h : W.ownsRow base e size v n xs) (hn : 0 < n) : ∃ g cap, v = .slice (some ⟨g, 0, none⟩) n cap ∧ n ≤ cap := by
  rcases h.2 with ⟨-, h2⟩ | ⟨g, cap, cur, e0, hb, hg, hc, -⟩
  · omega
  · exact ⟨g, cap, e0, hc⟩
theorem own_at18 {W : World} {base e size n g cap : Nat} {xs : List Value} (h : W.ownsRow base e size (.slice (some ⟨g, 0, none⟩) n cap) n xs) {j : Nat} {u : Value} (hj : xs[j]? = some u) : W.cell? ⟨g, j, none⟩ = some u ∧ W.frozen? ⟨g, j, none⟩ = false := by
  have hc := h.cells (g := g) rfl j u hj
  rw [addA, Nat.zero_add] at hc
  obtain ⟨cs, h2⟩ := own_typed18 h g rfl
  exact ⟨hc, fr_16 h2⟩
section
variable {W W' : World} {base : Nat} {vb : Value} {L : List Bv} {P : List PB} {x : Bv} {p : PB}
end
section
variable {W W' : World} {base G : Nat} {vc : Value} {a l : Int} {vb : Value} {L : List Bv} {P : List PB}
end
end Go.Proofs.Ytdpfdlkaickkiaa
namespace Go.Proofs.Ytdpfdlkaickkiaa
open Go.RowKit Go.Shelf
set_option linter.unusedSimpArgs false
set_option linter.unusedVariables false
attribute [local go_sem] Oper.semAt_some

structure PlM (Z : Nat → Prop) (A : Nat) (ao : Option Addr) (c : Nat) (m : List (BitVec 32)) (W : World) : Prop where
  a : W.cell? ⟨A, 0, none⟩ = some (.slice ao m.length c)
  za : Z A
  r : RwX cU W (.slice ao m.length c) m
  zr : m ≠ [] → ∀ ad, ao = some ad → Z ad.block
theorem PlM.kz {Z : Nat → Prop} {A : Nat} {ao : Option Addr} {c : Nat} {m : List (BitVec 32)} {W W' : World} (h : PlM Z A ao c m W) (g : KZ Z W W') : PlM Z A ao c m W' := by
  refine ⟨kz_cell g h.za h.a, h.za, ?_, h.zr⟩
  obtain ⟨ao', c', e, hc, hr⟩ := h.r
  injection e with e1 e2 e3
  subst e1 e3
  refine ⟨ao, c, rfl, hc, ?_⟩
  rcases hr with hr | ⟨b, off, e, hr⟩
  · exact .inl hr
  · exact .inr ⟨b, off, e, fun j x hj => kz_cell g (h.zr (by rintro rfl; cases hj) _ e) (hr j x hj)⟩
end Go.Proofs.Ytdpfdlkaickkiaa
namespace Go.Proofs.Ytdpfdlkaickkiaa
open Go.RowKit
set_option linter.unusedSimpArgs false
set_option linter.unusedVariables false
attribute [local go_sem] Oper.semAt_some

def SrR (w : World) (g : Nat) (qs : List Int) : Prop := ∀ (j : Nat) (y : Int), qs[j]? = some y → ∃ (t : Int) (so eo : Option Addr) (sn sc en ec : Nat), w.cell? ⟨g, j * 4, none⟩ = some (.int .i64 y) ∧ w.cell? ⟨g, j * 4 + 1, none⟩ = some (.int .i64 t) ∧ w.cell? ⟨g, j * 4 + 2, none⟩ = some (.slice so sn sc) ∧ w.cell? ⟨g, j * 4 + 3, none⟩ = some (.slice eo en ec)
theorem SrR.below {w w' : World} {g : Nat} {qs : List Int} (h : SrR w g qs) (hb : Below w.heap.size w w') : SrR w' g qs := fun j y hj => by
  obtain ⟨t, so, eo, sn, sc, en, ec, h1, h2, h3, h4⟩ := h j y hj
  exact ⟨t, so, eo, sn, sc, en, ec, keepc hb h1, keepc hb h2, keepc hb h3, keepc hb h4⟩
end Go.Proofs.Ytdpfdlkaickkiaa
namespace Go.Proofs.Ytdpfdlkaickkiaa
open Go.RowKit
set_option linter.unusedSimpArgs false
set_option linter.unusedVariables false
attribute [local go_sem] Oper.semAt_some

section
variable {w W W' : World} {base Q : Nat} {vb : Value} {dp an : Int} {L : List Bv} {P : List PB}
end
end Go.Proofs.Ytdpfdlkaickkiaa
namespace Go.Proofs.Ytdpfdlkaickkiaa
open Go.RowKit Go.Shelf
set_option linter.unusedSimpArgs false
set_option linter.unusedVariables false
attribute [local go_sem] Oper.semAt_some

section
variable {w W W' : World} {base Q : Nat} {vb : Value} {L : List Bv} {P : List PB} {Z : Nat} {s : List Bool}
end
end Go.Proofs.Ytdpfdlkaickkiaa
namespace Go.Proofs.Ytdpfdlkaickkiaa
open Go.RowKit
set_option linter.unusedSimpArgs false
set_option linter.unusedVariables false

end Go.Proofs.Ytdpfdlkaickkiaa
namespace Go.Proofs.Ytdpfdlkaickkiaa
open Go.RowKit
set_option linter.unusedSimpArgs false
set_option linter.unusedVariables false

structure RG (A : World → Prop) (D : Nat → World → Prop) (C E : Nat → Nat → World → Prop) (R : World → Prop) (ld bd ap st : Bool) (g : Nat × (Nat × Nat)) (X : World) : Prop where
  r : R X
  a : ap = false → A X
  d : bd = true → ap = false → D g.1 X
  c : ap = true → st = false → C g.2.1 g.2.2 X
  e : st = true → E g.2.1 g.2.2 X
  p1 : ap = true → bd = true
  p2 : st = true → ap = true
  p3 : ap = true → ld = true
section
variable {A : World → Prop} {D : Nat → World → Prop} {C E : Nat → Nat → World → Prop} {R : World → Prop} {ld bd ap st : Bool} {g : Nat × (Nat × Nat)} {X X' : World}
theorem RG.setld (h : RG A D C E R ld bd ap st g X) : RG A D C E R true bd ap st g X := ⟨h.r, h.a, h.d, h.c, h.e, h.p1, h.p2, fun _ => rfl⟩
theorem RG.nld (h : RG A D C E R ld bd ap st g X) (hl : ld = false) : A X := h.a (by
  cases q : ap with
  | false => rfl
  | true => have := h.p3 q; rw [hl] at this; cases this)
theorem RG.nbd (h : RG A D C E R ld bd ap st g X) (hl : bd = false) : A X := h.a (by
  cases q : ap with
  | false => rfl
  | true => have := h.p1 q; rw [hl] at this; cases this)
theorem RG.build (h : RG A D C E R ld bd ap st g X) (hbd : bd = false) {z : Nat} (hr : R X') (ha : A X') (hd : D z X') : RG A D C E R ld true ap st (z, g.2) X' :=
  have hap : ap = false := by
    cases q : ap with
    | false => rfl
    | true => have := h.p1 q; rw [hbd] at this; cases this
  ⟨hr, fun _ => ha, fun _ _ => hd, fun q => (by rw [hap] at q; cases q), fun q => (by have := h.p2 q; rw [hap] at this; cases this), fun _ => rfl, h.p2, h.p3⟩
theorem RG.app (h : RG A D C E R ld bd ap st g X) (hap : ap = false) (hld : ld = true) (hbd : bd = true) {gg cap : Nat} (hr : R X') (hc : C gg cap X') : RG A D C E R ld bd true st (g.1, (gg, cap)) X' :=
  have hs : st = false := by
    cases q : st with
    | false => rfl
    | true => have := h.p2 q; rw [hap] at this; cases this
  ⟨hr, fun q => (by cases q), fun _ q => (by cases q), fun _ _ => hc, fun q => (by rw [hs] at q; cases q), fun _ => hbd, fun _ => rfl, fun _ => hld⟩
theorem RG.sto (h : RG A D C E R ld bd ap st g X) (hap : ap = true) (hr : R X') (he : E g.2.1 g.2.2 X') : RG A D C E R ld bd ap true g X' :=
  ⟨hr, fun q => (by rw [hap] at q; cases q), fun _ q => (by rw [hap] at q; cases q), fun _ q => (by cases q), fun _ => he, h.p1, fun _ => hap, h.p3⟩
theorem RG.start (hr : R X) (ha : A X) : RG A D C E R false false false false g X := ⟨hr, fun _ => ha, fun q => (by cases q), fun q => (by cases q), fun q => (by cases q), fun q => (by cases q), fun q => (by cases q), fun q => (by cases q)⟩
end
def NwD (xs : List Value) (z : Nat) (X : World) : Prop := ∀ j u, xs[j]? = some u → X.cell? ((⟨z, 0, none⟩ : Addr).add j) = some u
theorem NwD.below {xs : List Value} {z : Nat} {X X' : World} (h : NwD xs z X) (hb : Below X.heap.size X X') : NwD xs z X' := fun j u hj => by
  have := h j u hj
  rw [addA] at this ⊢
  exact keepc hb this
end Go.Proofs.Ytdpfdlkaickkiaa
namespace Go.Proofs.Ytdpfdlkaickkiaa
open Go.RowKit
set_option linter.unusedSimpArgs false
set_option linter.unusedVariables false

structure RG2 (A : World → Prop) (D : Nat → World → Prop) (C E : Nat → Nat → World → Prop) (R : World → Prop) (l2 ld bd ap st : Bool) (g : Nat × (Nat × Nat)) (X : World) : Prop where
  g1 : RG A D C E R ld bd ap st g X
  q : bd = true → l2 = true
section
variable {A : World → Prop} {D : Nat → World → Prop} {C E : Nat → Nat → World → Prop} {R : World → Prop} {l2 ld bd ap st : Bool} {g : Nat × (Nat × Nat)} {X X' : World}
theorem RG2.setld (h : RG2 A D C E R l2 ld bd ap st g X) : RG2 A D C E R l2 true bd ap st g X := ⟨h.1.setld, h.2⟩
theorem RG2.nld (h : RG2 A D C E R l2 ld bd ap st g X) (hl : ld = false) : A X := h.1.nld hl
theorem RG2.nbd (h : RG2 A D C E R l2 ld bd ap st g X) (hl : bd = false) : A X := h.1.nbd hl
end
end Go.Proofs.Ytdpfdlkaickkiaa
namespace Go.Proofs.Ytdpfdlkaickkiaa
open Go.RowKit
set_option linter.unusedSimpArgs false
set_option linter.unusedVariables false

structure RC (R A E : World → Prop) (cl : Bool) (X : World) : Prop where
  r : R X
  a : cl = false → A X
  e : cl = true → E X
theorem RC.start {R A E : World → Prop} {X : World} (hr : R X) (ha : A X) : RC R A E false X := ⟨hr, fun _ => ha, fun q => (by cases q)⟩
end Go.Proofs.Ytdpfdlkaickkiaa
namespace Go.Proofs.Ytdpfdlkaickkiaa
open Go.RowKit Go.Shelf
set_option linter.unusedSimpArgs false
set_option linter.unusedVariables false
attribute [local go_sem] Oper.semAt_some

def InW (N : Nat) (u v : Int) (A : List (Int × Int)) : Prop := A.length = N ∧ ∀ p ∈ A, 0 ≤ p.1 ∧ p.1 ≤ u ∧ 0 ≤ p.2 ∧ p.2 ≤ v
theorem InW.at {N : Nat} {u v : Int} {A : List (Int × Int)} (h : InW N u v A) (hu : 0 ≤ u) (hv : 0 ≤ v) (k : Nat) : 0 ≤ (A.getD k (0, 0)).1 ∧ (A.getD k (0, 0)).1 ≤ u ∧ 0 ≤ (A.getD k (0, 0)).2 ∧ (A.getD k (0, 0)).2 ≤ v := by
  rw [List.getD_eq_getElem?_getD]
  cases hk : A[k]? with
  | none => simp; omega
  | some p => exact h.2 p (List.mem_of_getElem? hk)
theorem InW.up {N : Nat} {u v B M : Int} {A : List (Int × Int)} (h : InW N u v A) (hB : 0 ≤ B ∧ B ≤ u) (hM : 0 ≤ M ∧ M ≤ v) (e : Bool × Int) : InW N u v (upX B M A e) := by
  unfold upX
  split
  · refine ⟨by simp [h.1], fun p hp => ?_⟩
    rcases List.mem_or_eq_of_mem_set hp with q | rfl
    · exact h.2 p q
    · have := h.at (by omega) (by omega) e.2.toNat
      dsimp only
      omega
  · exact h
theorem InW.ups {N : Nat} {u v B M : Int} (hB : 0 ≤ B ∧ B ≤ u) (hM : 0 ≤ M ∧ M ≤ v) : ∀ (es : List (Bool × Int)) {A : List (Int × Int)}, InW N u v A → InW N u v (es.foldl (upX B M) A)
  | [], _, h => h
  | e :: es, _, h => InW.ups hB hM es (h.up hB hM e)
theorem InW.more {N : Nat} {u u' v : Int} {A : List (Int × Int)} (h : InW N u v A) (hu : u ≤ u') : InW N u' v A := ⟨h.1, fun p hp => by have := h.2 p hp; omega⟩
section
variable {w W W' : World} {base Q : Nat} {vb : Value} {dp : Int} {L : List Bv} {P : List PB} {Z : Nat} {A : List (Int × Int)}
end
section
variable {w W W' : World} {base Q : Nat} {vb : Value} {dp : Int} {L : List Bv} {P : List PB} {Z : Nat} {A : List (Int × Int)} {H : Nat} {hB hM : Int}
end
structure RS8 (R A E : World → Prop) (ld st : Bool) (X : World) : Prop where
  r : R X
  q : st = true → ld = true
  a : st = false → A X
  e : st = true → E X
theorem RS8.start {R A E : World → Prop} {X : World} (hr : R X) (ha : A X) : RS8 R A E false false X := ⟨hr, fun q => (by cases q), fun _ => ha, fun q => (by cases q)⟩
end Go.Proofs.Ytdpfdlkaickkiaa
namespace Go.Proofs.Ytdpfdlkaickkiaa
open Go.RowKit
set_option linter.unusedSimpArgs false
set_option linter.unusedVariables false

end Go.Proofs.Ytdpfdlkaickkiaa
namespace Go.Proofs.Ytdpfdlkaickkiaa
open Go.RowKit
set_option linter.unusedSimpArgs false
set_option linter.unusedVariables false

def TkQ (E Z op a l : Int) (P : List PB) (rs : List (Option Nat)) (T : Nat → Int → Int → List PB → Prop) (Q : Int → Int → List PB → Prop) (e : Ending) : Prop :=
  (E ≠ 0 ∧ e = .returned (.int .i64 E) ∧ Q a l P) ∨ (E = 0 ∧ ∃ o : Nat, op = (o : Int) ∧ ((rs[o]? = some none ∧ e = .returned (.int .i64 24) ∧ Q a l P) ∨ ∃ f er l' P', rs[o]? = some (some f) ∧ T f er l' P' ∧ e = .returned (.int .i64 er) ∧ Q (if er = 0 then a + Z else a) l' P'))
theorem TkQ.nil {Z a l : Int} {o : Nat} {P : List PB} {rs : List (Option Nat)} {T : Nat → Int → Int → List PB → Prop} {Q : Int → Int → List PB → Prop} (h : rs[o]? = some none) (hq : Q a l P) : TkQ 0 Z (o : Int) a l P rs T Q (.returned (.int .i64 24)) := .inr ⟨rfl, o, rfl, .inl ⟨h, rfl, hq⟩⟩
theorem TkQ.fn {Z a l l' er : Int} {o f : Nat} {P P' : List PB} {rs : List (Option Nat)} {T : Nat → Int → Int → List PB → Prop} {Q : Int → Int → List PB → Prop} (h : rs[o]? = some (some f)) (ht : T f er l' P') (hq : Q (if er = 0 then a + Z else a) l' P') : TkQ 0 Z (o : Int) a l P rs T Q (.returned (.int .i64 er)) := .inr ⟨rfl, o, rfl, .inr ⟨f, er, l', P', h, ht, rfl, hq⟩⟩
end Go.Proofs.Ytdpfdlkaickkiaa
namespace Go.Proofs.Ytdpfdlkaickkiaa
open Go.RowKit
set_option linter.unusedSimpArgs false
set_option linter.unusedVariables false
attribute [local go_sem] Oper.semAt_some

end Go.Proofs.Ytdpfdlkaickkiaa
namespace Go.Proofs.Ytdpfdlkaickkiaa
open Go.RowKit
set_option linter.unusedSimpArgs false
set_option linter.unusedVariables false
theorem storeF_run18 {P : Program} {w : World} {a : Addr} {m : Mode} (f : Fn) (x l : Array Value) : (store a (.func f x l) m).run P w = stored P w a (.func f x l) m := run_store P w a _ m rfl
theorem storeN_run18 {P : Program} {w : World} {a : Addr} {m : Mode} : (store a .nilFunc m).run P w = stored P w a .nilFunc m := run_store P w a _ m rfl
attribute [local go_sem] storeF_run18 storeN_run18
end Go.Proofs.Ytdpfdlkaickkiaa
namespace Go.Proofs.Ytdpfdlkaickkiaa
open Go.RowKit
set_option linter.unusedSimpArgs false
set_option linter.unusedVariables false
attribute [local go_sem] Oper.semAt_some storeF_run18 storeN_run18

section
variable (w w0 : World) (base G : Nat) (co : Option Addr) (cc : Nat) (lb : List Nat)
end
end Go.Proofs.Ytdpfdlkaickkiaa
namespace Go.Proofs.Ytdpfdlkaickkiaa
open Go.RowKit
set_option linter.unusedSimpArgs false
set_option linter.unusedVariables false
attribute [local go_sem] Oper.semAt_some storeF_run18 storeN_run18

end Go.Proofs.Ytdpfdlkaickkiaa
namespace Go.Proofs.Ytdpfdlkaickkiaa
open Go.RowKit
set_option linter.unusedSimpArgs false
set_option linter.unusedVariables false
attribute [local go_sem] Oper.semAt_some

theorem pw_len18 : ∀ (q : List Int) (lo hi : Int), q.Pairwise (· < ·) → (∀ x ∈ q, lo ≤ x ∧ x < hi) → lo ≤ hi → (q.length : Int) ≤ hi - lo
  | [], lo, hi, _, _, h => by simp; omega
  | x :: t, lo, hi, hp, hb, h => by
    rw [List.pairwise_cons] at hp
    have hx := hb x (by simp)
    have := pw_len18 t (x + 1) hi hp.2 (fun y hy => by have := hp.1 y hy; have := hb y (by simp [hy]); omega) (by omega)
    simp
    omega
theorem PbF.len {l : List Nat} {P : List PB} (h : PbF l P) : (P.length : Int) ≤ wds l := by
  have := pw_len18 (P.map PB.a) 0 (wds l) h.s (fun x hx => by obtain ⟨b, hb, rfl⟩ := List.mem_map.mp hx; have := h.b b hb; omega) (by unfold wds; omega)
  rw [List.length_map] at this
  omega
end Go.Proofs.Ytdpfdlkaickkiaa
namespace Go.Proofs.Ytdpfdlkaickkiaa
open Go.RowKit
set_option linter.unusedSimpArgs false
set_option linter.unusedVariables false
attribute [local go_sem] Oper.semAt_some

end Go.Proofs.Ytdpfdlkaickkiaa
namespace Go.Proofs.Ytdpfdlkaickkiaa
open Go.RowKit Go.Shelf
set_option linter.unusedSimpArgs false
set_option linter.unusedVariables false
attribute [local go_sem] Oper.semAt_some

theorem newsN18 (W : World) (a b c d : Value) (t : TypeId) : ∀ j u, [a, b, c, d][j]? = some u → (W.alloc (.cells #[a, b, c, d] t)).cell? ((⟨W.heap.size, 0, none⟩ : Addr).add j) = some u := by
  intro j u h
  match j, h with
  | 0, h => simp at h; subst h; simp [go_sem, Addr.add]
  | 1, h => simp at h; subst h; simp [go_sem, Addr.add]
  | 2, h => simp at h; subst h; simp [go_sem, Addr.add]
  | 3, h => simp at h; subst h; simp [go_sem, Addr.add]
  | j + 4, h => simp at h
theorem rowN_app18 (L : List Rn) (r : Rn) : rowN (L ++ [r]) = rowN L ++ [.int .u64 (hI r.f), .int .u64 (lI r.f), .bool r.k, .int .i64 r.n] := by
  unfold rowN
  rw [List.flatMap_append]
  simp
end Go.Proofs.Ytdpfdlkaickkiaa
