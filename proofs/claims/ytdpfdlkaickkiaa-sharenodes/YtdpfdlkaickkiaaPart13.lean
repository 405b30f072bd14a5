/-
  Part 13 of the proof: 1 texts, one behind the other.
-/
import Derived.Test.YtdpfdlkaickkiaaPart12
namespace Go.Proofs.Ytdpfdlkaickkiaa
open Go.RowKit Go.Shelf
set_option linter.unusedSimpArgs false
set_option linter.unusedVariables false

structure AdV (w : World) (base B Gf M : Nat) (b : Int) (vo : Value) (R : List Rn) (KB : Nat) (vn : Value) (V : List Value) (NL : List Nde) (OF : List Int) (NK : List Nde) (es : Array MapEntry) (clock : Nat) (X : World) : Prop where
  p : X.heap[w.heap.size]? = some (.cells #[.pointer (some ⟨B, 0, none⟩)] 118)
  n : X.heap[w.heap.size + 1]? = some (.cells #[.int .i64 b, vo] 57)
  c : X.heap[KB]? = some (.cells #[.int .i64 b, .int .i64 (R.length : Int), .int .u64 (smI R)] 120)
  j : JnV base B Gf M vn V NL OF NK es clock X
  o : X.ownsRow (w.heap.size + 2) 54 4 vo R.length (rowN R)
  f : KJ base M B w X
  q : ∀ x ∈ V, ∀ z, x.ownBlock = some z → z < w.heap.size
  s : ∀ z, vn.ownBlock = some z → z < w.heap.size
  r : base ≤ w.heap.size
section
variable {w : World} {base B Gf M : Nat} {b : Int} {vo : Value} {R : List Rn} {KB : Nat} {vn : Value} {V : List Value} {NL NK : List Nde} {OF : List Int} {es : Array MapEntry} {clock : Nat} {X X' : World}
theorem AdV.below (h : AdV w base B Gf M b vo R KB vn V NL OF NK es clock X) (hb : Below X.heap.size X X') : AdV w base B Gf M b vo R KB vn V NL OF NK es clock X' :=
  ⟨(hb.block _ (lt_16 h.p)).trans h.p, (hb.block _ (lt_16 h.n)).trans h.n, (hb.block _ (lt_16 h.c)).trans h.c, h.j.below hb, own_b13 hb h.o, h.f.trans (KJ.below hb h.j.lob), h.q, h.s, h.r⟩
end
structure AdW (w : World) (base B Gf M : Nat) (b : Int) (R : List Rn) (KB : Nat) (vn : Value) (V : List Value) (NL : List Nde) (OF : List Int) (NK : List Nde) (es : Array MapEntry) (clock : Nat) (X : World) : Prop where
  p : X.heap[w.heap.size]? = some (.cells #[.pointer (some ⟨B, 0, none⟩)] 118)
  c : X.heap[KB]? = some (.cells #[.int .i64 b, .int .i64 (R.length : Int), .int .u64 (smI R)] 120)
  j : JnV base B Gf M vn V NL OF NK es clock X
  f : KJ base M B w X
  r : base ≤ w.heap.size
section
variable {w : World} {base B Gf M : Nat} {b : Int} {vo : Value} {R : List Rn} {KB : Nat} {vn : Value} {V : List Value} {NL NK : List Nde} {OF : List Int} {es : Array MapEntry} {clock : Nat} {X X' X0 : World}
theorem AdW.below (h : AdW w base B Gf M b R KB vn V NL OF NK es clock X) (hb : Below X.heap.size X X') : AdW w base B Gf M b R KB vn V NL OF NK es clock X' :=
  ⟨(hb.block _ (lt_16 h.p)).trans h.p, (hb.block _ (lt_16 h.c)).trans h.c, h.j.below hb, h.f.trans (KJ.below hb h.j.lob), h.r⟩
theorem NdO.far12 {T : TypeId} {B o : Nat} {cs : Array Value} {u : Value} (h : NdO X base vn V NL) (hB : X.heap[B]? = some (.cells cs T)) (h1 : 57 ≠ T) (h2 : 54 ≠ T) : NdO (X.setCell ⟨B, o, none⟩ u) base vn V NL :=
  ⟨own_far16 h.o u (own_not18 h.o hB h1), h.l, fun j d x q1 q2 => own_far16 (h.r j d x q1 q2) u (own_not18 (h.r j d x q1 q2) hB h2), h.d⟩
theorem AdV.push12 {gg cap : Nat} (h : AdV w base B Gf M b vo R KB vn V NL OF NK es clock X0) (hg : X0.grownBy X vn.ownBlock) (ho : X.ownsRow base 57 2 (.slice (some ⟨gg, 0, none⟩) (NL.length + 1) cap) (NL.length + 1) (rowD NL V ++ [.int .i64 b, vo])) :
    AdW w base B Gf M b R KB (.slice (some ⟨gg, 0, none⟩) (NL.length + 1) cap) (V ++ [vo]) (NL ++ [⟨b, R⟩]) OF NK es clock (X.setCell ⟨B, 0, none⟩ (.slice (some ⟨gg, 0, none⟩) (NL.length + 1) cap)) ∧ X.cell? ⟨B, 0, none⟩ = some vn ∧ X.frozen? ⟨B, 0, none⟩ = false := by
  have ty : ∀ {z : Nat} {cs : Array Value} {T : TypeId}, X0.heap[z]? = some (.cells cs T) → 57 ≠ T → X.heap[z]? = some (.cells cs T) := fun hz hT => (hg.block _ (lt_16 hz) (fun q => own_not18 h.j.n.o hz hT q.symm)).trans hz
  have hB := ty h.j.j (by decide)
  have hM : X.heap[M]? = X0.heap[M]? := hg.block M h.j.k.lt (fun q => by
    obtain ⟨cs, hcs⟩ := own_typed18 h.j.n.o M q.symm
    rw [h.j.k.m] at hcs
    cases hcs)
  have hn := NdO.push12 (d := ⟨b, R⟩) h.j.n (own_base16 h.o (by have := h.r; omega)) (fun x hx z hz q => by have := h.q x hx z hz; have := (h.o.lt z q).1; omega) (Below.refl _ _) hg ho
  have hk := h.j.k.keep hM (fun z cs hz _ => by rw [ty hz (by decide), hz])
  have ne : ∀ {z : Nat} {cs : Array Value} {T : TypeId}, X.heap[z]? = some (.cells cs T) → 64 ≠ T → z ≠ B := fun hz hT q => by
    subst q
    rw [hB] at hz
    injection hz with hz
    injection hz with _ h3 _
    exact hT h3
  refine ⟨⟨(far_16 (ne (ty h.p (by decide)) (by decide))).trans (ty h.p (by decide)), (far_16 (ne (ty h.c (by decide)) (by decide))).trans (ty h.c (by decide)), ⟨by rw [set_16 hB]; rfl, hn.far12 hB (by decide) (by decide), (far_16 (ne (ty h.j.f (by decide)) (by decide))).trans (ty h.j.f (by decide)), ?_, h.j.lo⟩, ?_, h.r⟩, at_16 hB 0 _ rfl, fr_16 hB⟩
  · refine hk.keep (far_16 (fun q => ?_)) (fun z cs hz _ => far_16 (ne hz (by decide)))
    have h9 := hk.m
    rw [q, hB] at h9
    cases h9
  · exact (h.f.trans (KJ.grown h.j.n.o (by decide) (Nat.le_refl _) h.j.lob hg)).trans (KJ.setJ h.j.lo.1 _)
end
structure RM (A A1 : World → Prop) (D : Nat → World → Prop) (C : Nat → Nat → World → Prop) (E : World → Prop) (R : World → Prop) (en bd ap st : Bool) (g : Nat × (Nat × Nat)) (X : World) : Prop where
  r : R X
  a : en = false → A X
  a1 : en = true → ap = false → A1 X
  d : bd = true → ap = false → D g.1 X
  c : ap = true → st = false → C g.2.1 g.2.2 X
  e : st = true → E X
  p1 : ap = true → bd = true
  p2 : st = true → ap = true
  p3 : ap = true → en = true
section
variable {A A1 : World → Prop} {D : Nat → World → Prop} {C : Nat → Nat → World → Prop} {E R : World → Prop} {en bd ap st : Bool} {g : Nat × (Nat × Nat)} {X X' : World}
theorem RM.start (hr : R X) (ha : A X) : RM A A1 D C E R false false false false g X := ⟨hr, fun _ => ha, fun q => (by cases q), fun q => (by cases q), fun q => (by cases q), fun q => (by cases q), fun q => (by cases q), fun q => (by cases q), fun q => (by cases q)⟩
theorem RM.build (h : RM A A1 D C E R en bd ap st g X) (hbd : bd = false) {z : Nat} (hr : R X') (ha : A X → A X') (ha1 : A1 X → A1 X') (hd : D z X') : RM A A1 D C E R en true ap st (z, g.2) X' :=
  have hap : ap = false := by
    cases q : ap with
    | false => rfl
    | true => have := h.p1 q; rw [hbd] at this; cases this
  ⟨hr, fun q => ha (h.a q), fun q _ => ha1 (h.a1 q hap), fun _ _ => hd, fun q => (by rw [hap] at q; cases q), fun q => (by have := h.p2 q; rw [hap] at this; cases this), fun _ => rfl, h.p2, h.p3⟩
theorem RM.ent (h : RM A A1 D C E R en bd ap st g X) (hen : en = false) (hr : R X') (ha1 : A1 X') (hd : ∀ z, D z X → D z X') : RM A A1 D C E R true bd ap st g X' :=
  have hap : ap = false := by
    cases q : ap with
    | false => rfl
    | true => have := h.p3 q; rw [hen] at this; cases this
  ⟨hr, fun q => (by cases q), fun _ _ => ha1, fun q1 q2 => hd _ (h.d q1 q2), fun q => (by rw [hap] at q; cases q), fun q => (by have := h.p2 q; rw [hap] at this; cases this), h.p1, h.p2, fun _ => rfl⟩
theorem RM.app (h : RM A A1 D C E R en bd ap st g X) (hap : ap = false) (hen : en = true) (hbd : bd = true) {gg cap : Nat} (hr : R X') (hc : C gg cap X') : RM A A1 D C E R en bd true st (g.1, (gg, cap)) X' :=
  have hs : st = false := by
    cases q : st with
    | false => rfl
    | true => have := h.p2 q; rw [hap] at this; cases this
  ⟨hr, fun q => (by rw [hen] at q; cases q), fun _ q => (by cases q), fun _ q => (by cases q), fun _ _ => hc, fun q => (by rw [hs] at q; cases q), fun _ => hbd, fun _ => rfl, fun _ => hen⟩
theorem RM.sto (h : RM A A1 D C E R en bd ap st g X) (hap : ap = true) (hr : R X') (he : E X') : RM A A1 D C E R en bd ap true g X' :=
  ⟨hr, fun q => (by have := h.p3 hap; rw [q] at this; cases this), fun _ q => (by rw [hap] at q; cases q), fun _ q => (by rw [hap] at q; cases q), fun _ q => (by cases q), fun _ => he, h.p1, fun _ => hap, h.p3⟩
end
section
variable {w : World} {base B Gf M : Nat} {b : Int} {R : List Rn} {KB : Nat} {vn : Value} {V : List Value} {NL NK : List Nde} {OF : List Int} {es : Array MapEntry} {clock : Nat} {X X' X0 : World}
structure AdE (w : World) (base B Gf M : Nat) (b : Int) (R : List Rn) (KB : Nat) (vn : Value) (V : List Value) (NL : List Nde) (OF : List Int) (NK : List Nde) (es : Array MapEntry) (clock : Nat) (es1 : Array MapEntry) (clock1 : Nat) (v : Value) (bk : List Int) (X : World) : Prop where
  x : ∃ X0, AdW w base B Gf M b R KB vn V NL OF NK es clock X0 ∧ X0.heap.size ≤ X.heap.size ∧ (∀ z o, X0.heap[z]? = some o → z ≠ M → X.heap[z]? = some o) ∧ X.heap[M]? = some (.map es1 clock1) ∧ X.ownsRow base 3 1 v bk.length (bk.map cI)
  f : KJ base M B w X
theorem AdE.below {es1 : Array MapEntry} {clock1 : Nat} {v : Value} {bk : List Int} (h : AdE w base B Gf M b R KB vn V NL OF NK es clock es1 clock1 v bk X) (hbs : base ≤ X.heap.size) (hb : Below X.heap.size X X') : AdE w base B Gf M b R KB vn V NL OF NK es clock es1 clock1 v bk X' := by
  obtain ⟨X0, h1, h2, h3, h4, h5⟩ := h.x
  exact ⟨⟨X0, h1, Nat.le_trans h2 hb.size, fun z o hz hM => (hb.block z (by have := (Array.getElem?_eq_some_iff.1 hz).1; omega)).trans (h3 z o hz hM), (hb.block M (Array.getElem?_eq_some_iff.1 h4).1).trans h4, own_b13 hb h5⟩, h.f.trans (KJ.below hb hbs)⟩
theorem AdW.ent12 {es1 : Array MapEntry} {clock1 : Nat} {v : Value} {bk : List Int} (h : AdW w base B Gf M b R KB vn V NL OF NK es clock X) (ho : X.ownsRow base 3 1 v bk.length (bk.map cI)) : AdE w base B Gf M b R KB vn V NL OF NK es clock es1 clock1 v bk (X.putObj M (.map es1 clock1)) :=
  ⟨⟨X, h, by simp [World.putObj], fun z o hz hM => (World.putObj_heap_other hM).trans hz, World.putObj_heap_same h.j.k.lt, own_put12 ho h.j.k.m⟩, h.f.trans (KJ.put h.j.lo.2.2)⟩
structure AdC (w : World) (base B Gf M : Nat) (b : Int) (R : List Rn) (KB : Nat) (vn : Value) (V : List Value) (NL : List Nde) (OF : List Int) (NK : List Nde) (es : Array MapEntry) (clock : Nat) (es1 : Array MapEntry) (clock1 : Nat) (v : Value) (bk : List Int) (nn : Int) (gg cap : Nat) (X : World) : Prop where
  x : ∃ X0, AdW w base B Gf M b R KB vn V NL OF NK es clock X0 ∧ (∀ z o, X0.heap[z]? = some o → z ≠ M → v.ownBlock ≠ some z → X.heap[z]? = some o) ∧ X.heap[M]? = some (.map es1 clock1) ∧ X.ownsRow base 3 1 (.slice (some ⟨gg, 0, none⟩) (bk.length + 1) cap) (bk.length + 1) (bk.map cI ++ [cI nn]) ∧ (v.ownBlock = some gg ∨ X0.heap[gg]? = none)
  f : KJ base M B w X
theorem AdE.app12 {es1 : Array MapEntry} {clock1 : Nat} {v : Value} {bk : List Int} {nn : Int} {gg cap : Nat} (h : AdE w base B Gf M b R KB vn V NL OF NK es clock es1 clock1 v bk X) (hbs : base ≤ X.heap.size) (hg : X.grownBy X' v.ownBlock) (ho : X'.ownsRow base 3 1 (.slice (some ⟨gg, 0, none⟩) (bk.length + 1) cap) (bk.length + 1) (bk.map cI ++ [cI nn])) (hat : v.ownBlock = some gg ∨ gg = X.heap.size) : AdC w base B Gf M b R KB vn V NL OF NK es clock es1 clock1 v bk nn gg cap X' := by
  obtain ⟨X0, h1, h2, h3, h4, h5⟩ := h.x
  refine ⟨⟨X0, h1, fun z o hz hM hv => ?_, ?_, ho, hat.imp id (fun q => ?_)⟩, h.f.trans (KJ.grown h5 (by decide) (Nat.le_refl _) hbs hg)⟩
  · have h9 := h3 z o hz hM
    exact (hg.block z (Array.getElem?_eq_some_iff.1 h9).1 (fun q => hv q.symm)).trans h9
  · refine (hg.block M (Array.getElem?_eq_some_iff.1 h4).1 (fun q => ?_)).trans h4
    obtain ⟨cs, hcs⟩ := own_typed18 h5 M q.symm
    rw [h4] at hcs
    cases hcs
  · rw [q]
    exact Array.getElem?_eq_none (by omega)
theorem AdC.sto12 {D : Nde} {es1 : Array MapEntry} {clock1 : Nat} {v : Value} {st : Int} {bk : List Int} {gg cap : Nat} (h : AdC w base B Gf M b R KB vn V NL OF NK es clock es1 clock1 v bk (NK.length : Int) gg cap X) (hE : EnV base M Gf NK D es clock v st es1 clock1) (hbk : bkG D NK 0 = bk) :
    ∃ es2, (Instr.entryStore 62 (.map (some M)) (.int .i64 st) (.slice (some ⟨gg, 0, none⟩) (bk.length + 1) cap)).run Try.prog X = .ok () (X.putObj M (.map es2 clock1)) ∧ JnV base B Gf M vn V NL OF (NK ++ [D]) es2 clock1 (X.putObj M (.map es2 clock1)) ∧ KJ base M B w (X.putObj M (.map es2 clock1)) := by
  obtain ⟨X0, h1, h3, h4, h5, h6⟩ := h.x
  have ho := (hE.run X0 h1.j.k).2
  have hGn : (some gg : Option Nat) ≠ some Gf := fun q => by
    injection q with q
    subst q
    rcases h6 with r | r
    · exact hE.nG r
    · rw [h1.j.f] at r; cases r
  have ty : ∀ {z : Nat} {cs : Array Value} {T : TypeId}, X0.heap[z]? = some (.cells cs T) → 3 ≠ T → X.heap[z]? = some (.cells cs T) := fun {z} {cs} {T} hz hT => h3 z _ hz (fun q => by
    rw [q, h1.j.k.m] at hz; cases hz) (own_not18 ho hz hT)
  obtain ⟨es2, r1, r2⟩ := hE.sto X0 X (.slice (some ⟨gg, 0, none⟩) (bk.length + 1) cap) h1.j.k h4 (fun z cs hz hv hG => by
    rw [h3 z _ hz (fun q => by rw [q, h1.j.k.m] at hz; cases hz) hv, hz]) (by rw [hbk]; exact h5) (h6.imp (fun q => q.symm) (fun q => ⟨gg, rfl, q⟩)) hGn
  have pm : ∀ {z : Nat} {cs : Array Value} {T : TypeId}, X.heap[z]? = some (.cells cs T) → (X.putObj M (.map es2 clock1)).heap[z]? = some (.cells cs T) := fun hz => (World.putObj_heap_other (fun q => by rw [q, h4] at hz; cases hz)).trans hz
  have kp : ∀ {b0 e size n : Nat} {u : Value} {xs : List Value}, X0.ownsRow b0 e size u n xs → 3 ≠ e → (X.putObj M (.map es2 clock1)).ownsRow b0 e size u n xs := fun hu he => own_put12 (own_keep18 hu (fun z hz => by
    obtain ⟨cs, hcs⟩ := own_typed18 hu z hz
    rw [ty hcs he, hcs])) h4
  exact ⟨es2, r1, ⟨pm (ty h1.j.j (by decide)), ⟨kp h1.j.n.o (by decide), h1.j.n.l, fun i d u q1 q2 => kp (h1.j.n.r i d u q1 q2) (by decide), h1.j.n.d⟩, pm (h3 Gf _ h1.j.f (fun q => by have h9 := h1.j.f; rw [q, h1.j.k.m] at h9; cases h9) hE.nG), r2, h1.j.lo⟩, h.f.trans (KJ.put h1.j.lo.2.2)⟩
end
end Go.Proofs.Ytdpfdlkaickkiaa
