/-
  Part 14 of the proof: 1 texts, one behind the other.
-/
import Derived.Test.YtonagfmkplbooaaGreatDoorPart13
/-
  What the sequence of package algebra's along tells, with a question whose answer is a number, and a body that grows a row of its own.
-/
namespace Go.Proofs.YtonagfmkplbooaaGreatDoor
open Go.RowKit
set_option linter.unusedSimpArgs false
set_option linter.unusedVariables false

/-- What a round may change: the variable at L, and the row that it owns. -/
def KL (L : Nat) (W W' : World) : Prop := W.heap.size ≤ W'.heap.size ∧ ∀ v, W.cell? ⟨L, 0, none⟩ = some v → (∀ z, v.ownBlock = some z → z < W.heap.size) → ∃ v', W'.cell? ⟨L, 0, none⟩ = some v' ∧ (∀ z, v'.ownBlock = some z → (v.ownBlock = some z ∨ W.heap.size ≤ z) ∧ z < W'.heap.size) ∧ ∀ (z : Nat) (o : Obj), W.heap[z]? = some o → o.isCells = true → z ≠ L → v.ownBlock ≠ some z → W'.heap[z]? = some o
theorem heap_lt {W : World} {z : Nat} {o : Obj} (h : W.heap[z]? = some o) : z < W.heap.size := (Array.getElem?_eq_some_iff.mp h).1
theorem KL.trans {L : Nat} {A B C : World} (h : KL L A B) (g : KL L B C) : KL L A C := by
  refine ⟨Nat.le_trans h.1 g.1, fun v hv hz => ?_⟩
  obtain ⟨v1, h1, h2, h3⟩ := h.2 v hv hz
  obtain ⟨v2, g1, g2, g3⟩ := g.2 v1 h1 (fun z hz => (h2 z hz).2)
  refine ⟨v2, g1, fun z hz => ⟨?_, (g2 z hz).2⟩, fun z o ho hc hL hn => ?_⟩
  · rcases (g2 z hz).1 with q | q
    · exact (h2 z q).1
    · exact .inr (Nat.le_trans h.1 q)
  · refine g3 z o (h3 z o ho hc hL hn) hc hL (fun e => ?_)
    rcases (h2 z e).1 with q | q
    · exact hn q
    · have := heap_lt ho
      omega
/-- The variable at L lies there, its row too, and the blocks of Z are others. -/
def OwL (L : Nat) (Z : Nat → Prop) (W : World) : Prop := ∃ v, W.cell? ⟨L, 0, none⟩ = some v ∧ (∀ z, v.ownBlock = some z → z < W.heap.size) ∧ ∀ z, Z z → z < W.heap.size ∧ z ≠ L ∧ v.ownBlock ≠ some z
theorem OwL.kl {L : Nat} {Z Z' : Nat → Prop} {W W' : World} (h : OwL L Z W) (k : KL L W W') (hZ : ∀ z, Z' z → Z z) : OwL L Z' W' := by
  obtain ⟨v, h1, h2, h3⟩ := h
  obtain ⟨v', g1, g2, g3⟩ := k.2 v h1 h2
  refine ⟨v', g1, fun z hz => (g2 z hz).2, fun z hz => ?_⟩
  obtain ⟨a, b, c⟩ := h3 z (hZ z hz)
  refine ⟨Nat.lt_of_lt_of_le a k.1, b, fun e => ?_⟩
  rcases (g2 z e).1 with q | q
  · exact c q
  · omega
theorem owl_new {L : Nat} {Z : Nat → Prop} {W W' : World} (h : OwL L Z W) (hb : Below W.heap.size W W') : OwL L (fun z => Z z ∨ (W.heap.size ≤ z ∧ z < W'.heap.size)) W' := by
  obtain ⟨v, h1, h2, h3⟩ := h
  have hL := cell_in h1
  refine ⟨v, keepc hb h1, fun z hz => Nat.lt_of_lt_of_le (h2 z hz) hb.size, fun z hz => ?_⟩
  rcases hz with q | ⟨q, r⟩
  · obtain ⟨a, b, c⟩ := h3 z q
    exact ⟨Nat.lt_of_lt_of_le a hb.size, b, c⟩
  · refine ⟨r, by omega, fun e => ?_⟩
    have := h2 z e
    omega
theorem kl_cell {L : Nat} {Z : Nat → Prop} {W W' : World} (h : OwL L Z W) (k : KL L W W') {b o : Nat} {v : Value} (hz : Z b) (hc : W.cell? ⟨b, o, none⟩ = some v) : W'.cell? ⟨b, o, none⟩ = some v := by
  obtain ⟨u, h1, h2, h3⟩ := h
  obtain ⟨u', g1, g2, g3⟩ := k.2 u h1 h2
  obtain ⟨a, b', c⟩ := h3 b hz
  obtain ⟨ob, hob⟩ : ∃ ob, W.heap[b]? = some ob := ⟨_, Array.getElem?_eq_getElem a⟩
  have hi : ob.isCells = true := by
    cases ob with
    | cells a t => rfl
    | _ => simp [World.cell?, hob] at hc
  have e : W'.heap[b]? = W.heap[b]? := by rw [hob]; exact g3 b ob hob hi b' c
  rw [cellH e]
  exact hc
/-- The blocks that along's sequence reads are of Z. -/
def AlZ (Z : Nat → Prop) (A B C : Nat) (va vb : Value) (la lb : List Sg) : Prop := Z A ∧ Z B ∧ Z C ∧ (∀ b off n c, la ≠ [] → va = .slice (some ⟨b, off, none⟩) n c → Z b) ∧ (∀ b off n c, lb ≠ [] → vb = .slice (some ⟨b, off, none⟩) n c → Z b)
theorem RwG.kl {L : Nat} {Z : Nat → Prop} {W W' : World} {v : Value} {l : List Sg} (h : RwG W v l) (hO : OwL L Z W) (hk : KL L W W') (hz : ∀ b off n c, l ≠ [] → v = .slice (some ⟨b, off, none⟩) n c → Z b) : RwG W' v l := by
  obtain ⟨ao, c, e, h⟩ := h
  refine ⟨ao, c, e, ?_⟩
  by_cases hl : l = []
  · exact .inl hl
  · rcases h with h | ⟨b, off, e', hc⟩
    · exact .inl h
    · exact .inr ⟨b, off, e', fun j u hj => kl_cell hO hk (hz b off _ _ hl (by rw [e, e'])) (hc j u hj)⟩
theorem AlM.below {A B C : Nat} {va vb fv : Value} {la lb : List Sg} {W W' : World} (k : AlM A B C va vb fv la lb W) (h : Below W.heap.size W W') : AlM A B C va vb fv la lb W' := k.kc (below_kc h)
theorem AlM.kl {L : Nat} {Z : Nat → Prop} {P : Nat → Prop} {A B C : Nat} {va vb fv : Value} {la lb : List Sg} {W W' : World} (k : AlM A B C va vb fv la lb W) (hZ : AlZ Z A B C va vb la lb) (hO : OwL L (fun z => Z z ∨ P z) W) (hk : KL L W W') : AlM A B C va vb fv la lb W' :=
  ⟨kl_cell hO hk (.inl hZ.1) k.a, kl_cell hO hk (.inl hZ.2.1) k.b, kl_cell hO hk (.inl hZ.2.2.1) k.c, k.ra.kl hO hk (fun b off n c h1 h2 => .inl (hZ.2.2.2.1 b off n c h1 h2)), k.rb.kl hO hk (fun b off n c h1 h2 => .inl (hZ.2.2.2.2 b off n c h1 h2))⟩
/-- What a round is handed. -/
def encI (fq : Int → Int → Int) (x : Str) : Array Value := #[.agg #[.int .u64 (hI x.1.1), .int .u64 (lI x.1.1), .int .u64 (hI x.1.2), .int .u64 (lI x.1.2)], .int .i64 (fq x.2.1 x.2.2)]
/-- What is known while the body's call is made ready, and behind it, what a round keeps a letter. -/
structure RYj (Kp : World → World → Prop) (Cy : World → Prop) (J1 Jx1 : World → Prop) (f : Nat → Bool) (g : Bool) (W : World) : Prop where
  c4 : f 4 = true → f 3 = true
  c6 : f 6 = true → f 5 = true
  c7 : f 7 = true → f 2 = true ∧ f 4 = true ∧ f 6 = true
  c8 : f 8 = true → ∀ j, j < 8 → f j = true
  c9 : f 9 = true → f 8 = true
  ahead : f 8 = false → Cy W
  behind : f 8 = true → ∃ W4, Cy W4 ∧ ((g = true ∧ J1 W ∧ Kp W4 W) ∨ (g = false ∧ Jx1 W))
theorem RYj.start {Kp : World → World → Prop} {Cy J1 Jx1 : World → Prop} {f : Nat → Bool} {g : Bool} {W : World} (h : Cy W) (hf : ∀ j, f j = false) : RYj Kp Cy J1 Jx1 f g W :=
  ⟨fun q => (by rw [hf] at q; cases q), fun q => (by rw [hf] at q; cases q), fun q => (by rw [hf] at q; cases q), fun q => (by rw [hf] at q; cases q), fun q => (by rw [hf] at q; cases q), fun _ => h, fun q => (by rw [hf] at q; cases q)⟩
theorem RYj.now {Kp : World → World → Prop} {Cy J1 Jx1 : World → Prop} {f : Nat → Bool} {g : Bool} {W : World} (k : RYj Kp Cy J1 Jx1 f g W) (i : Nat) (hi : i < 8) (hun : f i = false) : Cy W := by
  refine k.ahead ?_
  cases h : f 8 with
  | false => rfl
  | true => have := k.c8 h i hi; rw [hun] at this; cases this
theorem RYj.step {Kp : World → World → Prop} {Cy J1 Jx1 : World → Prop} {f : Nat → Bool} {g : Bool} {W W' : World} (k : RYj Kp Cy J1 Jx1 f g W) (i : Nat) (hi : i < 8) (hun : f i = false) (f' : Nat → Bool) (hs : f' i = true) (ho : ∀ j, j ≠ i → f' j = f j) (hd : (i = 4 → f 3 = true) ∧ (i = 6 → f 5 = true) ∧ (i = 7 → f 2 = true ∧ f 4 = true ∧ f 6 = true)) (hc : Cy W') : RYj Kp Cy J1 Jx1 f' g W' := by
  have up : ∀ j, f j = true → f' j = true := fun j h => by
    by_cases e : j = i
    · rw [e]; exact hs
    · rw [ho j e]; exact h
  have dn : ∀ j, f' j = true → j = i ∨ f j = true := fun j h => by
    by_cases e : j = i
    · exact .inl e
    · rw [ho j e] at h; exact .inr h
  have n8 : f' 8 = true → False := fun h => by
    rw [ho 8 (by omega)] at h
    have := k.c8 h i hi
    rw [hun] at this
    cases this
  refine ⟨fun h => ?_, fun h => ?_, fun h => ?_, fun h => (n8 h).elim, fun h => ?_, fun _ => hc, fun h => (n8 h).elim⟩
  · rcases dn 4 h with e | e
    · exact up _ (hd.1 e.symm)
    · exact up _ (k.c4 e)
  · rcases dn 6 h with e | e
    · exact up _ (hd.2.1 e.symm)
    · exact up _ (k.c6 e)
  · rcases dn 7 h with e | e
    · obtain ⟨h1, h2, h3⟩ := hd.2.2 e.symm
      exact ⟨up _ h1, up _ h2, up _ h3⟩
    · obtain ⟨h1, h2, h3⟩ := k.c7 e
      exact ⟨up _ h1, up _ h2, up _ h3⟩
  · rcases dn 9 h with e | e
    · omega
    · exact up _ (k.c9 e)
theorem RYj.closed {Kp : World → World → Prop} {Cy J1 Jx1 : World → Prop} {f : Nat → Bool} {g : Bool} {W : World} (k : RYj Kp Cy J1 Jx1 f g W) (d0 : f 0 = true) (d1 : f 1 = true) (d7 : f 7 = true) : ∀ j, j < 8 → f j = true := by
  obtain ⟨h2, h4, h6⟩ := k.c7 d7
  have h3 := k.c4 h4
  have h5 := k.c6 h6
  intro j hj
  match j, hj with
  | 0, _ => exact d0
  | 1, _ => exact d1
  | 2, _ => exact h2
  | 3, _ => exact h3
  | 4, _ => exact h4
  | 5, _ => exact h5
  | 6, _ => exact h6
  | 7, _ => exact d7
  | n + 8, h => exact absurd h (by omega)
theorem RYj.to {Kp : World → World → Prop} {Cy J1 Jx1 : World → Prop} {f : Nat → Bool} {g : Bool} {W : World} (k : RYj Kp Cy J1 Jx1 f g W) (hl : ∀ j, j < 8 → f j = true) (f' : Nat → Bool) (hs : f' 8 = true) (ho : ∀ j, j ≠ 8 → f' j = f j) {g' : Bool} {W' : World} (hb : ∃ W4, Cy W4 ∧ ((g' = true ∧ J1 W' ∧ Kp W4 W') ∨ (g' = false ∧ Jx1 W'))) : RYj Kp Cy J1 Jx1 f' g' W' := by
  have a : ∀ j, j < 8 → f' j = true := fun j hj => by rw [ho j (by omega)]; exact hl j hj
  exact ⟨fun _ => a 3 (by omega), fun _ => a 5 (by omega), fun _ => ⟨a 2 (by omega), a 4 (by omega), a 6 (by omega)⟩, fun _ => a, fun _ => hs, fun h => (by rw [hs] at h; cases h), fun _ => hb⟩
theorem RYj.yes {Kp : World → World → Prop} {Cy J1 Jx1 : World → Prop} {f : Nat → Bool} {g : Bool} {W W5 : World} (k : RYj Kp Cy J1 Jx1 f g W) (hl : ∀ j, j < 8 → f j = true) (f' : Nat → Bool) (hs : f' 8 = true) (ho : ∀ j, j ≠ 8 → f' j = f j) (hc : Cy W) (hj : J1 W5) (hk : Kp W W5) : RYj Kp Cy J1 Jx1 f' true W5 := k.to hl f' hs ho ⟨W, hc, .inl ⟨rfl, hj, hk⟩⟩
theorem RYj.nay {Kp : World → World → Prop} {Cy J1 Jx1 : World → Prop} {f : Nat → Bool} {g : Bool} {W W5 : World} (k : RYj Kp Cy J1 Jx1 f g W) (hl : ∀ j, j < 8 → f j = true) (f' : Nat → Bool) (hs : f' 8 = true) (ho : ∀ j, j ≠ 8 → f' j = f j) (hc : Cy W) (hj : Jx1 W5) : RYj Kp Cy J1 Jx1 f' false W5 := k.to hl f' hs ho ⟨W, hc, .inr ⟨rfl, hj⟩⟩
theorem RYj.last {Kp : World → World → Prop} {Cy J1 Jx1 : World → Prop} {f : Nat → Bool} {g : Bool} {W : World} (k : RYj Kp Cy J1 Jx1 f g W) (d8 : f 8 = true) (f' : Nat → Bool) (hs : f' 9 = true) (ho : ∀ j, j ≠ 9 → f' j = f j) : RYj Kp Cy J1 Jx1 f' g W := by
  have a : ∀ j, j < 8 → f' j = true := fun j hj => by rw [ho j (by omega)]; exact k.c8 d8 j hj
  have h8 : f' 8 = true := by rw [ho 8 (by omega)]; exact d8
  exact ⟨fun _ => a 3 (by omega), fun _ => a 5 (by omega), fun _ => ⟨a 2 (by omega), a 4 (by omega), a 6 (by omega)⟩, fun _ => a, fun _ => h8, fun h => (by rw [h8] at h; cases h), fun _ => k.behind d8⟩
set_option maxRecDepth 20000 in
set_option maxHeartbeats 16000000 in
theorem aloni_any (n l A B C L fid : Nat) (Z : Nat → Prop) (fq : Int → Int → Int) (hq : ∀ x y W, Calls Tryz.prog fid #[.int .i64 x, .int .i64 y] W fun e W' => e = .returned (.int .i64 (fq x y)) ∧ W' = W) (heg : ∀ args w, (callFunc fid args).run Tryz.prog w = .ok (.enter fid args) w) (va vb : Value) (la lb : List Sg) (hla : la.length ≤ 1000000000) (hlb : lb.length ≤ 1000000000) (J Jx : List Str → World → Prop)
    (hJ : ∀ pre W W', J pre W → Below W.heap.size W W' → J pre W')
    (hY : ∀ pre x W, J pre W → pre.length < (al la lb).length → YieldAt Fence.wide (n - 1) Tryz.prog l (encI fq x) W fun e W' =>
      (e = .returned (.bool true) ∧ J (pre ++ [x]) W' ∧ KL L W W') ∨ (e = .returned (.bool false) ∧ Jx (pre ++ [x]) W'))
    (W : World) (hZ : AlZ Z A B C va vb la lb) (hO : OwL L Z W) (hM : AlM A B C va vb (.func (.func fid) #[] #[]) la lb W) (h0 : J [] W) :
    Calls Tryz.prog 70 #[.func (.yield l) #[] #[], .pointer (some ⟨A, 0, none⟩), .pointer (some ⟨B, 0, none⟩), .pointer (some ⟨C, 0, none⟩)] W fun e W' => (∃ v, e = .returned v) ∧
      ((∃ ys, ys = al la lb ∧ J ys W') ∨ (∃ pre, pre <+: al la lb ∧ Jx pre W')) := by
  have HM := hidR hM
  have HQ := hidR hq
  have HO := hidR hO
  have H0 := hidR h0
  have HJ := hidR hJ
  have HY := hidR hY
  obtain ⟨ao, ca, rfl, -⟩ := id hM.ra
  obtain ⟨bo, cb, rfl, -⟩ := id hM.rb
  have HZ := hidR hZ
  clear hM h0 hJ hY hq hO hZ
  go_enter Tryz.func70, Tryz.ntmps70
  go_wp2_with fail
  go_loopw [5, 6] (fun iv kv wr => ∃ (i k : Nat) (pre : List Str), i ≤ la.length ∧ k ≤ lb.length ∧ iv = .int .i64 i ∧ kv = .int .i64 k ∧ Hid (pre ++ al (la.drop i) (lb.drop k) = al la lb) ∧ Hid (J pre wr) ∧ Hid (AlM A B C (.slice ao la.length ca) (.slice bo lb.length cb) (.func (.func fid) #[] #[]) la lb wr) ∧ Hid (OwL L Z wr)) (fun iv kv _ => (la.length - (intOf iv).toNat) + (lb.length - (intOf kv).toNat))
  case atStart => exact ⟨0, 0, [], by omega, by omega, rfl, rfl, hidR (by simp), H0, HM, HO⟩
  case round =>
    clear H0 HM HO
    obtain ⟨i, k, pre, hi, hk, rfl, rfl, HP, HJw, HM, HO⟩ := hrel
    obtain ⟨m0, m1, m2, -, -⟩ := HM.out
    by_cases hlt : (i : Int) < (la.length : Int)
    · by_cases hlt2 : (k : Int) < (lb.length : Int)
      · have his : i < la.length := by omega
        have hks : k < lb.length := by omega
        obtain ⟨b, off, hab, hc⟩ : ∃ b off, ao = some ⟨b, off, none⟩ ∧ ∀ j u, (rowG la)[j]? = some u → wr.cell? ⟨b, off + j, none⟩ = some u := by
          obtain ⟨ao', c', e, h⟩ := HM.out.ra
          rcases h with h | h
          · rw [h] at his; simp at his
          · injection e with e1; rw [e1]; exact h
        obtain ⟨b', off', hab', hc'⟩ : ∃ b off, bo = some ⟨b, off, none⟩ ∧ ∀ j u, (rowG lb)[j]? = some u → wr.cell? ⟨b, off + j, none⟩ = some u := by
          obtain ⟨ao', c', e, h⟩ := HM.out.rb
          rcases h with h | h
          · rw [h] at hks; simp at hks
          · injection e with e1; rw [e1]; exact h
        subst hab
        subst hab'
        obtain ⟨x0, x1, x2, x3, x4⟩ := rwg_cells hc i his
        obtain ⟨y0, y1, y2, y3, y4⟩ := rwg_cells hc' k hks
        have HS := hidR (al_step la lb i k his hks)
        clear hc hc'
        revert HS
        generalize la[i] = s at *
        generalize lb[k] = t at *
        obtain ⟨⟨sx, sy⟩, sh⟩ := s
        obtain ⟨⟨tx, ty⟩, th⟩ := t
        dsimp only at x0 x1 x2 x3 x4 y0 y1 y2 y3 y4 ⊢
        intro HS
        have HX : Hid (∀ W, Below wr.heap.size wr W → (W.cell? ⟨b, off + i * 5, none⟩ = some (.int .u64 (hI sx)) ∧ W.cell? ⟨b, off + i * 5 + 1, none⟩ = some (.int .u64 (lI sx)) ∧ W.cell? ⟨b, off + i * 5 + 2, none⟩ = some (.int .u64 (hI sy)) ∧ W.cell? ⟨b, off + i * 5 + 3, none⟩ = some (.int .u64 (lI sy)) ∧ W.cell? ⟨b, off + i * 5 + 4, none⟩ = some (.int .i64 sh)) ∧ (W.cell? ⟨b', off' + k * 5, none⟩ = some (.int .u64 (hI tx)) ∧ W.cell? ⟨b', off' + k * 5 + 1, none⟩ = some (.int .u64 (lI tx)) ∧ W.cell? ⟨b', off' + k * 5 + 2, none⟩ = some (.int .u64 (hI ty)) ∧ W.cell? ⟨b', off' + k * 5 + 3, none⟩ = some (.int .u64 (lI ty)) ∧ W.cell? ⟨b', off' + k * 5 + 4, none⟩ = some (.int .i64 th))) := hidR (fun W hb => ⟨⟨keepc hb x0, keepc hb x1, keepc hb x2, keepc hb x3, keepc hb x4⟩, ⟨keepc hb y0, keepc hb y1, keepc hb y2, keepc hb y3, keepc hb y4⟩⟩)
        have HC : Hid (∀ W, Below wr.heap.size wr W → W.cell? ⟨A, 0, none⟩ = some (.slice (some ⟨b, off, none⟩) la.length ca) ∧ W.cell? ⟨B, 0, none⟩ = some (.slice (some ⟨b', off', none⟩) lb.length cb) ∧ W.cell? ⟨C, 0, none⟩ = some (.func (.func fid) #[] #[])) := hidR (fun W hb => ⟨keepc hb m0, keepc hb m1, keepc hb m2⟩)
        have HNO : Hid (sy = comL ((sx, sy), sh) ((tx, ty), th) ∨ ty = comL ((sx, sy), sh) ((tx, ty), th)) := hidR (by
          rcases com_ways ((sx, sy), sh) ((tx, ty), th) with ⟨_, q, _⟩ | ⟨_, _, q⟩ | ⟨_, _, q, _⟩
          · exact .inr q.symm
          · exact .inl q.symm
          · exact .inl q.symm)
        have iw : IntKind.i64.wrap ((i : Int) + 1) = (i : Int) + 1 := by rw [IntKind.wrap_i64]; omega
        have kw : IntKind.i64.wrap ((k : Int) + 1) = (k : Int) + 1 := by rw [IntKind.wrap_i64]; omega
        go_wp2_with fail
        clear x0 x1 x2 x3 x4 y0 y1 y2 y3 y4 m0 m1 m2
        refine gh_region (γ := Nat × Nat) (qpOk 12 12 (by decide) (fun N => by kernel_rfl) (by kernel_rfl) (by kernel_rfl) (by kernel_rfl) (by kernel_rfl)) (by kernel_rfl) (by kernel_rfl) [some 20, some 21, some 22, some 23, some 24, some 25, some 26, some 27, some 7, some 8, none, none] (fun g => [.slice (some ⟨b, off, none⟩) la.length ca, .int .i64 (i : Int), .pointer (some ⟨b, off + i * 5, none⟩), .agg #[.int .u64 (hI sx), .int .u64 (lI sx), .int .u64 (hI sy), .int .u64 (lI sy), .int .i64 sh], .slice (some ⟨b', off', none⟩) lb.length cb, .int .i64 (k : Int), .pointer (some ⟨b', off' + k * 5, none⟩), .agg #[.int .u64 (hI tx), .int .u64 (lI tx), .int .u64 (hI ty), .int .u64 (lI ty), .int .i64 th], .pointer (some ⟨g.1, 0, none⟩), .pointer (some ⟨g.2, 0, none⟩), undef, undef]) (by kernel_rfl) (by simp) (fun lp g W => RR wr sx sy sh tx ty th (lp.getD 8 false) (lp.getD 9 false) (lp.getD 10 false) (lp.getD 11 false) g W) (0, 0) ⟨below_drewN (Below.refl _ _) 1, fun h => (by simp at h), fun h => (by simp at h), fun h => (by simp at h), fun h => (by simp at h), fun h => (by simp at h)⟩ ?step ?fin
        case step =>
          intro q o lp g w' a' ho hsz hun hdep hR hS K Q' hK
          have hfl : ∀ j, j ≠ q → (lp.setIfInBounds q true).getD j false = lp.getD j false := fun j hj => by rw [Array.getD_eq_getD_getElem?, Array.getD_eq_getD_getElem?, Array.getElem?_setIfInBounds_ne (by omega)]
          obtain ⟨m0, m1, -⟩ := HC.out w' hR.bel
          obtain ⟨⟨x0, x1, x2, x3, x4⟩, ⟨y0, y1, y2, y3, y4⟩⟩ := HX.out w' hR.bel
          have hq : q < 12 := (List.getElem?_eq_some_iff.mp ho).1
          match q, ho, hun, hdep, hK, hfl, hq with
          | 0, ho, hun, hdep, hK, hfl, _ =>
            obtain rfl := Option.some.inj ho
            have o1 : a'.tmps[1]? = some (.pointer (some ⟨A, 0, none⟩)) := (hS.old 1 (by simp)).trans rfl
            have hK' := hK g w' (fun _ _ _ _ _ _ => rfl) (by rw [hfl 8 (by decide), hfl 9 (by decide), hfl 10 (by decide), hfl 11 (by decide)]; exact hR) (.slice (some ⟨b, off, none⟩) la.length ca) (by simp only [valO, Option.bind_some]; simp only [putAll, Act.put, List.setIfInBounds_toArray, List.set_cons_zero, List.set_cons_succ]; rfl)
            clear hS hdep hR
            refine gh_quiet (v := .slice (some ⟨b, off, none⟩) la.length ca) ?_ ?_
            · (simp only [execOp, Act.eval, o1]; go_simp; first | done | (simp; done) | (simp [*]; done) | omega | (simp; omega))
            · exact hK'
          | 1, ho, hun, hdep, hK, hfl, _ =>
            obtain rfl := Option.some.inj ho
            have o5 : a'.tmps[5]? = some (.int .i64 (i : Int)) := (hS.old 5 (by simp)).trans rfl
            have hK' := hK g w' (fun _ _ _ _ _ _ => rfl) (by rw [hfl 8 (by decide), hfl 9 (by decide), hfl 10 (by decide), hfl 11 (by decide)]; exact hR) (.int .i64 (i : Int)) (by simp only [valO, Option.bind_some]; simp only [putAll, Act.put, List.setIfInBounds_toArray, List.set_cons_zero, List.set_cons_succ]; rfl)
            clear hS hdep hR
            refine gh_quiet (v := .int .i64 (i : Int)) ?_ ?_
            · (simp only [execOp, Act.eval, o5]; go_simp; first | done | (simp; done) | (simp [*]; done) | omega | (simp; omega))
            · exact hK'
          | 2, ho, hun, hdep, hK, hfl, _ =>
            obtain rfl := Option.some.inj ho
            have d0 : lp.getD 0 false = true := hdep { on := 0, ground := .data } (by simp) rfl
            have e20 : a'.tmps[20]? = some (.slice (some ⟨b, off, none⟩) la.length ca) := (hS.don 0 _ 20 rfl d0 rfl).trans (by simp only [putAll, Act.put, List.setIfInBounds_toArray, List.set_cons_zero, List.set_cons_succ]; rfl)
            have d1 : lp.getD 1 false = true := hdep { on := 1, ground := .data } (by simp) rfl
            have e21 : a'.tmps[21]? = some (.int .i64 (i : Int)) := (hS.don 1 _ 21 rfl d1 rfl).trans (by simp only [putAll, Act.put, List.setIfInBounds_toArray, List.set_cons_zero, List.set_cons_succ]; rfl)
            have hK' := hK g w' (fun _ _ _ _ _ _ => rfl) (by rw [hfl 8 (by decide), hfl 9 (by decide), hfl 10 (by decide), hfl 11 (by decide)]; exact hR) (.pointer (some ⟨b, off + i * 5, none⟩)) (by simp only [valO, Option.bind_some]; simp only [putAll, Act.put, List.setIfInBounds_toArray, List.set_cons_zero, List.set_cons_succ]; rfl)
            clear hS hdep hR
            refine gh_quiet (v := .pointer (some ⟨b, off + i * 5, none⟩)) ?_ ?_
            · (simp only [execOp, Act.eval, e20, e21]; go_simp; first | done | (simp; done) | (simp [*]; done) | omega | (simp; omega))
            · exact hK'
          | 3, ho, hun, hdep, hK, hfl, _ =>
            obtain rfl := Option.some.inj ho
            have d2 : lp.getD 2 false = true := hdep { on := 2, ground := .data } (by simp) rfl
            have e22 : a'.tmps[22]? = some (.pointer (some ⟨b, off + i * 5, none⟩)) := (hS.don 2 _ 22 rfl d2 rfl).trans (by simp only [putAll, Act.put, List.setIfInBounds_toArray, List.set_cons_zero, List.set_cons_succ]; rfl)
            have hK' := hK g w' (fun _ _ _ _ _ _ => rfl) (by rw [hfl 8 (by decide), hfl 9 (by decide), hfl 10 (by decide), hfl 11 (by decide)]; exact hR) (.agg #[.int .u64 (hI sx), .int .u64 (lI sx), .int .u64 (hI sy), .int .u64 (lI sy), .int .i64 sh]) (by simp only [valO, Option.bind_some]; simp only [putAll, Act.put, List.setIfInBounds_toArray, List.set_cons_zero, List.set_cons_succ]; rfl)
            clear hS hdep hR
            refine gh_quiet (v := .agg #[.int .u64 (hI sx), .int .u64 (lI sx), .int .u64 (hI sy), .int .u64 (lI sy), .int .i64 sh]) ?_ ?_
            · (simp only [execOp, Act.eval, e22]; go_simp; first | done | (simp; done) | (simp [*]; done) | omega | (simp; omega))
            · exact hK'
          | 4, ho, hun, hdep, hK, hfl, _ =>
            obtain rfl := Option.some.inj ho
            have o2 : a'.tmps[2]? = some (.pointer (some ⟨B, 0, none⟩)) := (hS.old 2 (by simp)).trans rfl
            have hK' := hK g w' (fun _ _ _ _ _ _ => rfl) (by rw [hfl 8 (by decide), hfl 9 (by decide), hfl 10 (by decide), hfl 11 (by decide)]; exact hR) (.slice (some ⟨b', off', none⟩) lb.length cb) (by simp only [valO, Option.bind_some]; simp only [putAll, Act.put, List.setIfInBounds_toArray, List.set_cons_zero, List.set_cons_succ]; rfl)
            clear hS hdep hR
            refine gh_quiet (v := .slice (some ⟨b', off', none⟩) lb.length cb) ?_ ?_
            · (simp only [execOp, Act.eval, o2]; go_simp; first | done | (simp; done) | (simp [*]; done) | omega | (simp; omega))
            · exact hK'
          | 5, ho, hun, hdep, hK, hfl, _ =>
            obtain rfl := Option.some.inj ho
            have o6 : a'.tmps[6]? = some (.int .i64 (k : Int)) := (hS.old 6 (by simp)).trans rfl
            have hK' := hK g w' (fun _ _ _ _ _ _ => rfl) (by rw [hfl 8 (by decide), hfl 9 (by decide), hfl 10 (by decide), hfl 11 (by decide)]; exact hR) (.int .i64 (k : Int)) (by simp only [valO, Option.bind_some]; simp only [putAll, Act.put, List.setIfInBounds_toArray, List.set_cons_zero, List.set_cons_succ]; rfl)
            clear hS hdep hR
            refine gh_quiet (v := .int .i64 (k : Int)) ?_ ?_
            · (simp only [execOp, Act.eval, o6]; go_simp; first | done | (simp; done) | (simp [*]; done) | omega | (simp; omega))
            · exact hK'
          | 6, ho, hun, hdep, hK, hfl, _ =>
            obtain rfl := Option.some.inj ho
            have d4 : lp.getD 4 false = true := hdep { on := 4, ground := .data } (by simp) rfl
            have e24 : a'.tmps[24]? = some (.slice (some ⟨b', off', none⟩) lb.length cb) := (hS.don 4 _ 24 rfl d4 rfl).trans (by simp only [putAll, Act.put, List.setIfInBounds_toArray, List.set_cons_zero, List.set_cons_succ]; rfl)
            have d5 : lp.getD 5 false = true := hdep { on := 5, ground := .data } (by simp) rfl
            have e25 : a'.tmps[25]? = some (.int .i64 (k : Int)) := (hS.don 5 _ 25 rfl d5 rfl).trans (by simp only [putAll, Act.put, List.setIfInBounds_toArray, List.set_cons_zero, List.set_cons_succ]; rfl)
            have hK' := hK g w' (fun _ _ _ _ _ _ => rfl) (by rw [hfl 8 (by decide), hfl 9 (by decide), hfl 10 (by decide), hfl 11 (by decide)]; exact hR) (.pointer (some ⟨b', off' + k * 5, none⟩)) (by simp only [valO, Option.bind_some]; simp only [putAll, Act.put, List.setIfInBounds_toArray, List.set_cons_zero, List.set_cons_succ]; rfl)
            clear hS hdep hR
            refine gh_quiet (v := .pointer (some ⟨b', off' + k * 5, none⟩)) ?_ ?_
            · (simp only [execOp, Act.eval, e24, e25]; go_simp; first | done | (simp; done) | (simp [*]; done) | omega | (simp; omega))
            · exact hK'
          | 7, ho, hun, hdep, hK, hfl, _ =>
            obtain rfl := Option.some.inj ho
            have d6 : lp.getD 6 false = true := hdep { on := 6, ground := .data } (by simp) rfl
            have e26 : a'.tmps[26]? = some (.pointer (some ⟨b', off' + k * 5, none⟩)) := (hS.don 6 _ 26 rfl d6 rfl).trans (by simp only [putAll, Act.put, List.setIfInBounds_toArray, List.set_cons_zero, List.set_cons_succ]; rfl)
            have hK' := hK g w' (fun _ _ _ _ _ _ => rfl) (by rw [hfl 8 (by decide), hfl 9 (by decide), hfl 10 (by decide), hfl 11 (by decide)]; exact hR) (.agg #[.int .u64 (hI tx), .int .u64 (lI tx), .int .u64 (hI ty), .int .u64 (lI ty), .int .i64 th]) (by simp only [valO, Option.bind_some]; simp only [putAll, Act.put, List.setIfInBounds_toArray, List.set_cons_zero, List.set_cons_succ]; rfl)
            clear hS hdep hR
            refine gh_quiet (v := .agg #[.int .u64 (hI tx), .int .u64 (lI tx), .int .u64 (hI ty), .int .u64 (lI ty), .int .i64 th]) ?_ ?_
            · (simp only [execOp, Act.eval, e26]; go_simp; first | done | (simp; done) | (simp [*]; done) | omega | (simp; omega))
            · exact hK'
          | 8, ho, hun, hdep, hK, hfl, _ =>
            obtain rfl := Option.some.inj ho
            have hK' := hK (w'.heap.size, g.2) (w'.alloc (.cells #[.int .u64 0, .int .u64 0, .int .u64 0, .int .u64 0, .int .i64 0] 47)) (fun k ok s hk hl hd => ?same8) (by rw [hfl 9 (by decide), hfl 10 (by decide), hfl 11 (by decide), getD_set_same (by rw [hsz]; decide)]; rw [hun] at hR; exact hR.al8) (.pointer (some ⟨w'.heap.size, 0, none⟩)) (by simp only [valO, Option.bind_some]; simp only [putAll, Act.put, List.setIfInBounds_toArray, List.set_cons_zero, List.set_cons_succ]; rfl)
            case same8 =>
              have hne : s ≠ 7 := by
                rintro rfl
                have := dstG_of (by kernel_rfl) k 8 ok _ 7 hk rfl hd rfl
                subst this
                rw [hun] at hl
                cases hl
              exact gh_same (d := 7) (s := s) (by simp only [putAll, Act.put, List.setIfInBounds_toArray, List.set_cons_zero, List.set_cons_succ]; rfl) hne
            clear hS hdep hR
            unfold Oper.wp
            simp only [execOp]
            go_simp
            exact hK'
          | 9, ho, hun, hdep, hK, hfl, _ =>
            obtain rfl := Option.some.inj ho
            have hK' := hK (g.1, w'.heap.size) (w'.alloc (.cells #[.int .u64 0, .int .u64 0, .int .u64 0, .int .u64 0, .int .i64 0] 47)) (fun k ok s hk hl hd => ?same9) (by rw [hfl 8 (by decide), hfl 10 (by decide), hfl 11 (by decide), getD_set_same (by rw [hsz]; decide)]; rw [hun] at hR; exact hR.al9) (.pointer (some ⟨w'.heap.size, 0, none⟩)) (by simp only [valO, Option.bind_some]; simp only [putAll, Act.put, List.setIfInBounds_toArray, List.set_cons_zero, List.set_cons_succ]; rfl)
            case same9 =>
              have hne : s ≠ 8 := by
                rintro rfl
                have := dstG_of (by kernel_rfl) k 9 ok _ 8 hk rfl hd rfl
                subst this
                rw [hun] at hl
                cases hl
              exact gh_same (d := 8) (s := s) (by simp only [putAll, Act.put, List.setIfInBounds_toArray, List.set_cons_zero, List.set_cons_succ]; rfl) hne
            clear hS hdep hR
            unfold Oper.wp
            simp only [execOp]
            go_simp
            exact hK'
          | 10, ho, hun, hdep, hK, hfl, _ =>
            obtain rfl := Option.some.inj ho
            have d8 : lp.getD 8 false = true := hdep { on := 8, ground := .data } (by simp) rfl
            have d3 : lp.getD 3 false = true := hdep { on := 3, ground := .data } (by simp) rfl
            have e7 : a'.tmps[7]? = some (.pointer (some ⟨g.1, 0, none⟩)) := (hS.don 8 _ 7 rfl d8 rfl).trans (by simp only [putAll, Act.put, List.setIfInBounds_toArray, List.set_cons_zero, List.set_cons_succ]; rfl)
            have e23 : a'.tmps[23]? = some (.agg #[.int .u64 (hI sx), .int .u64 (lI sx), .int .u64 (hI sy), .int .u64 (lI sy), .int .i64 sh]) := (hS.don 3 _ 23 rfl d3 rfl).trans (by simp only [putAll, Act.put, List.setIfInBounds_toArray, List.set_cons_zero, List.set_cons_succ]; rfl)
            rw [hun] at hR
            have hz := (hR.x d8).2
            simp only [Bool.false_eq_true, if_false] at hz
            obtain ⟨z0, z1, z2, z3, z4, f0, f1, f2, f3, f4⟩ := hz
            have hK' := hK g _ (fun _ _ _ _ _ _ => rfl) (by rw [hfl 8 (by decide), hfl 9 (by decide), hfl 11 (by decide), getD_set_same (by rw [hsz]; decide)]; exact hR.st10 d8) undef rfl
            clear hS hdep hR
            unfold Oper.wp
            simp [execOp, Act.eval, e7, e23, go_sem, z0, z1, z2, z3, z4, f0, f1, f2, f3, f4, Oper.upon]
            exact hK'
          | 11, ho, hun, hdep, hK, hfl, _ =>
            obtain rfl := Option.some.inj ho
            have d9 : lp.getD 9 false = true := hdep { on := 9, ground := .data } (by simp) rfl
            have d7 : lp.getD 7 false = true := hdep { on := 7, ground := .data } (by simp) rfl
            have e8 : a'.tmps[8]? = some (.pointer (some ⟨g.2, 0, none⟩)) := (hS.don 9 _ 8 rfl d9 rfl).trans (by simp only [putAll, Act.put, List.setIfInBounds_toArray, List.set_cons_zero, List.set_cons_succ]; rfl)
            have e27 : a'.tmps[27]? = some (.agg #[.int .u64 (hI tx), .int .u64 (lI tx), .int .u64 (hI ty), .int .u64 (lI ty), .int .i64 th]) := (hS.don 7 _ 27 rfl d7 rfl).trans (by simp only [putAll, Act.put, List.setIfInBounds_toArray, List.set_cons_zero, List.set_cons_succ]; rfl)
            rw [hun] at hR
            have hz := (hR.y d9).2
            simp only [Bool.false_eq_true, if_false] at hz
            obtain ⟨z0, z1, z2, z3, z4, f0, f1, f2, f3, f4⟩ := hz
            have hK' := hK g _ (fun _ _ _ _ _ _ => rfl) (by rw [hfl 8 (by decide), hfl 9 (by decide), hfl 10 (by decide), getD_set_same (by rw [hsz]; decide)]; exact hR.st11 d9) undef rfl
            clear hS hdep hR
            unfold Oper.wp
            simp [execOp, Act.eval, e8, e27, go_sem, z0, z1, z2, z3, z4, f0, f1, f2, f3, f4, Oper.upon]
            exact hK'
          | n + 12, ho, hun, hdep, hK, hfl, hq => exact absurd hq (by omega)
        case fin =>
          intro g W2 hR
          have hR : RR wr sx sy sh tx ty th true true true true g W2 := by simpa using hR
          obtain ⟨N1, N2⟩ := g
          have HN1 := hidR (hR.x rfl).1
          have HN2 := hidR (hR.y rfl).1
          have HG1 := hidR (hR.x rfl).2
          have HG2 := hidR (hR.y rfl).2
          have HB2 := hidR hR.bel
          simp only [putAll, Act.put, List.setIfInBounds_toArray, List.set_cons_zero, List.set_cons_succ]
          clear hR
          refine wl_nil (P := Tryz.prog) (ops := #[]) ?_
          have KM := common6_any sx sy sh tx ty th
          obtain ⟨p0, p1, p2, p3, p4, -⟩ := HG1.out
          obtain ⟨q0, q1, q2, q3, q4, -⟩ := HG2.out
          have HS1 := hidR HS.out
          revert KM HS1 HNO
          generalize comF ((sx, sy), sh) ((tx, ty), th) = cf
          generalize comL ((sx, sy), sh) ((tx, ty), th) = cl
          intro HNO KM HS1
          clear HS
          go_wp2_with fail
          refine (KM _).mono ?_
          rintro e w3 ⟨rfl, hb3⟩
          have b3 := bl1 w3 (.cells #[.int .u64 (hI cf), .int .u64 (lI cf), .int .u64 (hI cl), .int .u64 (lI cl)] 83)
          have HB4 := hidR (keepb b3 (keepb hb3 HB2.out))
          have HN3 := hidR (keepb hb3 HB2.out).size
          have HG14 := hidR ((HG1.out.below hb3).below b3)
          have HG24 := hidR ((HG2.out.below hb3).below b3)
          have HQ4 := hidR (aty_new w3 w3.heap.size cf cl 83 rfl)
          clear KM hb3 b3 HG1 HG2 HB2 p0 p1 p2 p3 p4 q0 q1 q2 q3 q4
          have HKA := fun w => HQ.out sh th w
          have HYY : Hid (∀ W, Below wr.heap.size wr W → YieldAt Fence.wide (n - 1) Tryz.prog l #[.agg #[.int .u64 (hI cf), .int .u64 (lI cf), .int .u64 (hI cl), .int .u64 (lI cl)], .int .i64 (fq sh th)] W fun e W' => (e = .returned (.bool true) ∧ J (pre ++ [((cf, cl), (sh, th))]) W' ∧ KL L W W') ∨ (e = .returned (.bool false) ∧ Jx (pre ++ [((cf, cl), (sh, th))]) W')) := hidR (fun W hb => HY.out pre ((cf, cl), (sh, th)) W (HJ.out pre wr W HJw.out hb) (by rw [← HP.out, HS1.out]; simp))
          generalize fq sh th = db at *
          go_wp2_with fail
          generalize w3.heap.size = N3 at *
          refine gh_regionIn n (γ := Bool) (qpOk 10 10 (by decide) (fun N => by kernel_rfl) (by kernel_rfl) (by kernel_rfl) (by kernel_rfl) (by kernel_rfl)) (by kernel_rfl) (by kernel_rfl) [some 31, some 32, some 33, some 34, some 35, some 36, some 37, some 38, some 39, some 40] (fun g => [.func (.yield l) #[] #[], .agg #[.int .u64 (hI cf), .int .u64 (lI cf), .int .u64 (hI cl), .int .u64 (lI cl)], .func (.func fid) #[] #[], .pointer (some ⟨N1, 4, none⟩), .int .i64 sh, .pointer (some ⟨N2, 4, none⟩), .int .i64 th, .int .i64 db, .bool g, .bool (!g)]) (by kernel_rfl) (by simp) (fun lp g W => RYj (KL L) (CyI wr N1 N2 N3 sx sy sh tx ty th cf cl) (J (pre ++ [((cf, cl), (sh, th))])) (Jx (pre ++ [((cf, cl), (sh, th))])) (fun j => lp.getD j false) g W) true (RYj.start ⟨HQ4.out.heap rfl, HG14.out.below (below_drewN (Below.refl _ _) 1), HG24.out.below (below_drewN (Below.refl _ _) 1), below_drewN HB4.out 1⟩ (fun j => by simp [Array.getElem?_replicate]; split <;> rfl)) ?ystep ?yfin
          case ystep =>
            intro q o lp g w' a' ho hsz hun hdep hR hS K Q' hK
            have hfl : ∀ j, j ≠ q → (lp.setIfInBounds q true).getD j false = lp.getD j false := fun j hj => by rw [Array.getD_eq_getD_getElem?, Array.getD_eq_getD_getElem?, Array.getElem?_setIfInBounds_ne (by omega)]
            have hq : q < 10 := (List.getElem?_eq_some_iff.mp ho).1
            have hft : (lp.setIfInBounds q true).getD q false = true := getD_set_same (by rw [hsz]; exact hq)
            clear HQ4 HG14 HG24 HB4
            match q, ho, hun, hdep, hK, hfl, hft, hq with
            | 0, ho, hun, hdep, hK, hfl, hft, _ =>
              obtain rfl := Option.some.inj ho
              have o0 : a'.tmps[0]? = some (.func (.yield l) #[] #[]) := (hS.old 0 (by simp)).trans rfl
              have hC := hR.now 0 (by decide) hun
              have hK' := hK g w' (fun _ _ _ _ _ _ => rfl) (hR.step 0 (by decide) hun _ hft hfl ⟨fun h => absurd h (by decide), fun h => absurd h (by decide), fun h => absurd h (by decide)⟩ hC) (.func (.yield l) #[] #[]) (by simp only [valO, Option.bind_some]; simp only [putAll, Act.put, List.setIfInBounds_toArray, List.set_cons_zero, List.set_cons_succ]; rfl)
              obtain ⟨⟨⟨a0, a1, a2, a3⟩, -⟩, ⟨s0, s1, s2, s3, s4, -⟩, ⟨t0, t1, t2, t3, t4, -⟩, hb1⟩ := hC
              obtain ⟨-, -, m2⟩ := HC.out w' hb1
              clear hS hdep hR
              refine oper_wide (gh_quiet (v := .func (.yield l) #[] #[]) ?_ ?_)
              · (simp only [execOp, Act.eval, o0]; go_simp; first | done | (simp; done) | (simp [*]; done) | omega | (simp; omega))
              · exact hK'
            | 1, ho, hun, hdep, hK, hfl, hft, _ =>
              obtain rfl := Option.some.inj ho
              have o9 : a'.tmps[9]? = some (.pointer (some ⟨N3, 0, none⟩)) := (hS.old 9 (by simp)).trans rfl
              have hC := hR.now 1 (by decide) hun
              have hK' := hK g w' (fun _ _ _ _ _ _ => rfl) (hR.step 1 (by decide) hun _ hft hfl ⟨fun h => absurd h (by decide), fun h => absurd h (by decide), fun h => absurd h (by decide)⟩ hC) (.agg #[.int .u64 (hI cf), .int .u64 (lI cf), .int .u64 (hI cl), .int .u64 (lI cl)]) (by simp only [valO, Option.bind_some]; simp only [putAll, Act.put, List.setIfInBounds_toArray, List.set_cons_zero, List.set_cons_succ]; rfl)
              obtain ⟨⟨⟨a0, a1, a2, a3⟩, -⟩, ⟨s0, s1, s2, s3, s4, -⟩, ⟨t0, t1, t2, t3, t4, -⟩, hb1⟩ := hC
              obtain ⟨-, -, m2⟩ := HC.out w' hb1
              clear hS hdep hR
              refine oper_wide (gh_quiet (v := .agg #[.int .u64 (hI cf), .int .u64 (lI cf), .int .u64 (hI cl), .int .u64 (lI cl)]) ?_ ?_)
              · (simp only [execOp, Act.eval, o9]; go_simp; first | done | (simp; done) | (simp [*]; done) | omega | (simp; omega))
              · exact hK'
            | 2, ho, hun, hdep, hK, hfl, hft, _ =>
              obtain rfl := Option.some.inj ho
              have o3 : a'.tmps[3]? = some (.pointer (some ⟨C, 0, none⟩)) := (hS.old 3 (by simp)).trans rfl
              have hC := hR.now 2 (by decide) hun
              have hK' := hK g w' (fun _ _ _ _ _ _ => rfl) (hR.step 2 (by decide) hun _ hft hfl ⟨fun h => absurd h (by decide), fun h => absurd h (by decide), fun h => absurd h (by decide)⟩ hC) (.func (.func fid) #[] #[]) (by simp only [valO, Option.bind_some]; simp only [putAll, Act.put, List.setIfInBounds_toArray, List.set_cons_zero, List.set_cons_succ]; rfl)
              obtain ⟨⟨⟨a0, a1, a2, a3⟩, -⟩, ⟨s0, s1, s2, s3, s4, -⟩, ⟨t0, t1, t2, t3, t4, -⟩, hb1⟩ := hC
              obtain ⟨-, -, m2⟩ := HC.out w' hb1
              clear hS hdep hR
              refine oper_wide (gh_quiet (v := .func (.func fid) #[] #[]) ?_ ?_)
              · (simp only [execOp, Act.eval, o3]; go_simp; first | done | (simp; done) | (simp [*]; done) | omega | (simp; omega))
              · exact hK'
            | 3, ho, hun, hdep, hK, hfl, hft, _ =>
              obtain rfl := Option.some.inj ho
              have o7 : a'.tmps[7]? = some (.pointer (some ⟨N1, 0, none⟩)) := (hS.old 7 (by simp)).trans rfl
              have hC := hR.now 3 (by decide) hun
              have hK' := hK g w' (fun _ _ _ _ _ _ => rfl) (hR.step 3 (by decide) hun _ hft hfl ⟨fun h => absurd h (by decide), fun h => absurd h (by decide), fun h => absurd h (by decide)⟩ hC) (.pointer (some ⟨N1, 4, none⟩)) (by simp only [valO, Option.bind_some]; simp only [putAll, Act.put, List.setIfInBounds_toArray, List.set_cons_zero, List.set_cons_succ]; rfl)
              obtain ⟨⟨⟨a0, a1, a2, a3⟩, -⟩, ⟨s0, s1, s2, s3, s4, -⟩, ⟨t0, t1, t2, t3, t4, -⟩, hb1⟩ := hC
              obtain ⟨-, -, m2⟩ := HC.out w' hb1
              clear hS hdep hR
              refine oper_wide (gh_quiet (v := .pointer (some ⟨N1, 4, none⟩)) ?_ ?_)
              · (simp only [execOp, Act.eval, o7]; go_simp; first | done | (simp; done) | (simp [*]; done) | omega | (simp; omega))
              · exact hK'
            | 4, ho, hun, hdep, hK, hfl, hft, _ =>
              obtain rfl := Option.some.inj ho
              have d3 : lp.getD 3 false = true := hdep { on := 3, ground := .data } (by simp) rfl
              have e34 : a'.tmps[34]? = some (.pointer (some ⟨N1, 4, none⟩)) := (hS.don 3 _ 34 rfl d3 rfl).trans (by simp only [putAll, Act.put, List.setIfInBounds_toArray, List.set_cons_zero, List.set_cons_succ]; rfl)
              have hC := hR.now 4 (by decide) hun
              have hK' := hK g w' (fun _ _ _ _ _ _ => rfl) (hR.step 4 (by decide) hun _ hft hfl ⟨fun _ => d3, fun h => absurd h (by decide), fun h => absurd h (by decide)⟩ hC) (.int .i64 sh) (by simp only [valO, Option.bind_some]; simp only [putAll, Act.put, List.setIfInBounds_toArray, List.set_cons_zero, List.set_cons_succ]; rfl)
              obtain ⟨⟨⟨a0, a1, a2, a3⟩, -⟩, ⟨s0, s1, s2, s3, s4, -⟩, ⟨t0, t1, t2, t3, t4, -⟩, hb1⟩ := hC
              obtain ⟨-, -, m2⟩ := HC.out w' hb1
              clear hS hdep hR
              refine oper_wide (gh_quiet (v := .int .i64 sh) ?_ ?_)
              · (simp only [execOp, Act.eval, e34]; go_simp; first | done | (simp; done) | (simp [*]; done) | omega | (simp; omega))
              · exact hK'
            | 5, ho, hun, hdep, hK, hfl, hft, _ =>
              obtain rfl := Option.some.inj ho
              have o8 : a'.tmps[8]? = some (.pointer (some ⟨N2, 0, none⟩)) := (hS.old 8 (by simp)).trans rfl
              have hC := hR.now 5 (by decide) hun
              have hK' := hK g w' (fun _ _ _ _ _ _ => rfl) (hR.step 5 (by decide) hun _ hft hfl ⟨fun h => absurd h (by decide), fun h => absurd h (by decide), fun h => absurd h (by decide)⟩ hC) (.pointer (some ⟨N2, 4, none⟩)) (by simp only [valO, Option.bind_some]; simp only [putAll, Act.put, List.setIfInBounds_toArray, List.set_cons_zero, List.set_cons_succ]; rfl)
              obtain ⟨⟨⟨a0, a1, a2, a3⟩, -⟩, ⟨s0, s1, s2, s3, s4, -⟩, ⟨t0, t1, t2, t3, t4, -⟩, hb1⟩ := hC
              obtain ⟨-, -, m2⟩ := HC.out w' hb1
              clear hS hdep hR
              refine oper_wide (gh_quiet (v := .pointer (some ⟨N2, 4, none⟩)) ?_ ?_)
              · (simp only [execOp, Act.eval, o8]; go_simp; first | done | (simp; done) | (simp [*]; done) | omega | (simp; omega))
              · exact hK'
            | 6, ho, hun, hdep, hK, hfl, hft, _ =>
              obtain rfl := Option.some.inj ho
              have d5 : lp.getD 5 false = true := hdep { on := 5, ground := .data } (by simp) rfl
              have e36 : a'.tmps[36]? = some (.pointer (some ⟨N2, 4, none⟩)) := (hS.don 5 _ 36 rfl d5 rfl).trans (by simp only [putAll, Act.put, List.setIfInBounds_toArray, List.set_cons_zero, List.set_cons_succ]; rfl)
              have hC := hR.now 6 (by decide) hun
              have hK' := hK g w' (fun _ _ _ _ _ _ => rfl) (hR.step 6 (by decide) hun _ hft hfl ⟨fun h => absurd h (by decide), fun _ => d5, fun h => absurd h (by decide)⟩ hC) (.int .i64 th) (by simp only [valO, Option.bind_some]; simp only [putAll, Act.put, List.setIfInBounds_toArray, List.set_cons_zero, List.set_cons_succ]; rfl)
              obtain ⟨⟨⟨a0, a1, a2, a3⟩, -⟩, ⟨s0, s1, s2, s3, s4, -⟩, ⟨t0, t1, t2, t3, t4, -⟩, hb1⟩ := hC
              obtain ⟨-, -, m2⟩ := HC.out w' hb1
              clear hS hdep hR
              refine oper_wide (gh_quiet (v := .int .i64 th) ?_ ?_)
              · (simp only [execOp, Act.eval, e36]; go_simp; first | done | (simp; done) | (simp [*]; done) | omega | (simp; omega))
              · exact hK'
            | 7, ho, hun, hdep, hK, hfl, hft, _ =>
              obtain rfl := Option.some.inj ho
              have d2 : lp.getD 2 false = true := hdep { on := 2, ground := .data } (by simp) rfl
              have e33 : a'.tmps[33]? = some (.func (.func fid) #[] #[]) := (hS.don 2 _ 33 rfl d2 rfl).trans (by simp only [putAll, Act.put, List.setIfInBounds_toArray, List.set_cons_zero, List.set_cons_succ]; rfl)
              have d4 : lp.getD 4 false = true := hdep { on := 4, ground := .data } (by simp) rfl
              have e35 : a'.tmps[35]? = some (.int .i64 sh) := (hS.don 4 _ 35 rfl d4 rfl).trans (by simp only [putAll, Act.put, List.setIfInBounds_toArray, List.set_cons_zero, List.set_cons_succ]; rfl)
              have d6 : lp.getD 6 false = true := hdep { on := 6, ground := .data } (by simp) rfl
              have e37 : a'.tmps[37]? = some (.int .i64 th) := (hS.don 6 _ 37 rfl d6 rfl).trans (by simp only [putAll, Act.put, List.setIfInBounds_toArray, List.set_cons_zero, List.set_cons_succ]; rfl)
              have hC := hR.now 7 (by decide) hun
              have hK' := hK g w' (fun _ _ _ _ _ _ => rfl) (hR.step 7 (by decide) hun _ hft hfl ⟨fun h => absurd h (by decide), fun h => absurd h (by decide), fun _ => ⟨d2, d4, d6⟩⟩ hC) (.int .i64 db) (by simp only [valO, Option.bind_some]; simp only [putAll, Act.put, List.setIfInBounds_toArray, List.set_cons_zero, List.set_cons_succ]; rfl)
              clear hS hdep hR
              refine oper_wide ?_
              unfold Oper.wp
              simp only [execOp, Act.eval]
              simp [e33, e35, e37, go_sem, Oper.upon, heg]
              exact (HKA w').mono (fun e w'' ⟨he, hw⟩ => by rw [he, hw]; exact hK')
            | 8, ho, hun, hdep, hK, hfl, hft, _ =>
              obtain rfl := Option.some.inj ho
              have d0 : lp.getD 0 false = true := hdep { on := 0, ground := .data } (by simp) rfl
              have e31 : a'.tmps[31]? = some (.func (.yield l) #[] #[]) := (hS.don 0 _ 31 rfl d0 rfl).trans (by simp only [putAll, Act.put, List.setIfInBounds_toArray, List.set_cons_zero, List.set_cons_succ]; rfl)
              have d1 : lp.getD 1 false = true := hdep { on := 1, ground := .data } (by simp) rfl
              have e32 : a'.tmps[32]? = some (.agg #[.int .u64 (hI cf), .int .u64 (lI cf), .int .u64 (hI cl), .int .u64 (lI cl)]) := (hS.don 1 _ 32 rfl d1 rfl).trans (by simp only [putAll, Act.put, List.setIfInBounds_toArray, List.set_cons_zero, List.set_cons_succ]; rfl)
              have d7 : lp.getD 7 false = true := hdep { on := 7, ground := .data } (by simp) rfl
              have e38 : a'.tmps[38]? = some (.int .i64 db) := (hS.don 7 _ 38 rfl d7 rfl).trans (by simp only [putAll, Act.put, List.setIfInBounds_toArray, List.set_cons_zero, List.set_cons_succ]; rfl)
              have hC := hR.ahead hun
              have h9 : lp.getD 9 false = false := by
                cases h : lp.getD 9 false with
                | false => rfl
                | true => have := hR.c9 h; rw [hun] at this; cases this
              refine yd_wp (l := l) (args := #[.agg #[.int .u64 (hI cf), .int .u64 (lI cf), .int .u64 (hI cl), .int .u64 (lI cl)], .int .i64 db]) (HYY.out w' hC.2.2.2) (fun r hr => by rw [← hr]; simp [execOp, Act.eval, e31, e32, e38, go_sem]) ?_
              have hlist := hR.closed d0 d1 d7
              rintro e W5 (⟨rfl, hJ5, hk5⟩ | ⟨rfl, hx5⟩)
              · refine ⟨_, rfl, hK true W5 (fun k o s hk hl hd => ?_) (hR.yes hlist _ hft hfl hC hJ5 hk5) _ (by simp only [valO, Option.bind_some]; simp only [putAll, Act.put, List.setIfInBounds_toArray, List.set_cons_zero, List.set_cons_succ]; rfl)⟩
                refine gh_same2 (d := 39) (d2 := 40) (by simp only [putAll, Act.put, List.setIfInBounds_toArray, List.set_cons_zero, List.set_cons_succ]; try rfl) ?_ ?_
                · rintro rfl
                  have := dstG_of (by kernel_rfl) k 8 o _ 39 hk rfl hd rfl
                  subst this
                  rw [hun] at hl
                  cases hl
                · rintro rfl
                  have := dstG_of (by kernel_rfl) k 9 o _ 40 hk rfl hd rfl
                  subst this
                  rw [h9] at hl
                  cases hl
              · refine ⟨_, rfl, hK false W5 (fun k o s hk hl hd => ?_) (hR.nay hlist _ hft hfl hC hx5) _ (by simp only [valO, Option.bind_some]; simp only [putAll, Act.put, List.setIfInBounds_toArray, List.set_cons_zero, List.set_cons_succ]; rfl)⟩
                refine gh_same2 (d := 39) (d2 := 40) (by simp only [putAll, Act.put, List.setIfInBounds_toArray, List.set_cons_zero, List.set_cons_succ]; try rfl) ?_ ?_
                · rintro rfl
                  have := dstG_of (by kernel_rfl) k 8 o _ 39 hk rfl hd rfl
                  subst this
                  rw [hun] at hl
                  cases hl
                · rintro rfl
                  have := dstG_of (by kernel_rfl) k 9 o _ 40 hk rfl hd rfl
                  subst this
                  rw [h9] at hl
                  cases hl
            | 9, ho, hun, hdep, hK, hfl, hft, _ =>
              obtain rfl := Option.some.inj ho
              have d8 : lp.getD 8 false = true := hdep { on := 8, ground := .data } (by simp) rfl
              have e39 : a'.tmps[39]? = some (.bool g) := (hS.don 8 _ 39 rfl d8 rfl).trans (by simp only [putAll, Act.put, List.setIfInBounds_toArray, List.set_cons_zero, List.set_cons_succ]; rfl)
              have hK' := hK g w' (fun _ _ _ _ _ _ => rfl) (hR.last d8 _ hft hfl) (.bool (!g)) (by simp only [valO, Option.bind_some]; simp only [putAll, Act.put, List.setIfInBounds_toArray, List.set_cons_zero, List.set_cons_succ]; rfl)
              clear hS hdep hR
              refine oper_wide (gh_quiet (v := .bool (!g)) ?_ ?_)
              · (simp only [execOp, Act.eval, e39]; go_simp)
              · exact hK'
            | n + 10, ho, hun, hdep, hK, hfl, hft, hq => exact absurd hq (by omega)
          case yfin =>
            intro g W5 hR
            obtain ⟨W, HW0, hY5⟩ := hR.behind (by simp)
            have HW := hidR HW0
            clear HQ4 HG14 HG24 HB4 hR HW0
            simp only [putAll, Act.put, List.setIfInBounds_toArray, List.set_cons_zero, List.set_cons_succ]
            cases g with
            | true =>
              obtain ⟨hJ5, hk5⟩ : J (pre ++ [((cf, cl), (sh, th))]) W5 ∧ KL L W W5 := by rcases hY5 with ⟨-, h1, h2⟩ | ⟨h, -⟩; exact ⟨h1, h2⟩; cases h
              have HJ5 := hidR hJ5
              have hOW := owl_new HO.out HW.out.2.2.2
              have HM5 := hidR ((HM.out.below HW.out.2.2.2).kl HZ.out hOW hk5)
              have HO5 := hidR (hOW.kl hk5 (Z' := Z) (fun z h => .inl h))
              obtain ⟨⟨⟨a0, a1, a2, a3⟩, -⟩, ⟨s0, s1, s2, s3, s4, -⟩, ⟨t0, t1, t2, t3, t4, -⟩, -⟩ := HW.out
              have a0 := kl_cell hOW hk5 (.inr ⟨HN3.out, cell_in a0⟩) a0
              have a1 := kl_cell hOW hk5 (.inr ⟨HN3.out, cell_in a1⟩) a1
              have a2 := kl_cell hOW hk5 (.inr ⟨HN3.out, cell_in a2⟩) a2
              have a3 := kl_cell hOW hk5 (.inr ⟨HN3.out, cell_in a3⟩) a3
              have s2 := kl_cell hOW hk5 (.inr ⟨HN1.out, cell_in s2⟩) s2
              have s3 := kl_cell hOW hk5 (.inr ⟨HN1.out, cell_in s3⟩) s3
              have t2 := kl_cell hOW hk5 (.inr ⟨HN2.out, cell_in t2⟩) t2
              have t3 := kl_cell hOW hk5 (.inr ⟨HN2.out, cell_in t3⟩) t3
              have E1 := fun w => eqW_run sy cl w
              have E2 := fun w => eqW_run ty cl w
              clear hJ5 hk5 hY5 HW HYY HM HJw hOW HO HN1 HN2 HN3 HQ
              refine wl_nil (P := Tryz.prog) (ops := #[]) ?_
              by_cases c1 : sy = cl
              · have b1 : (sy == cl) = true := by simpa using c1
                rw [b1] at E1
                by_cases c2 : ty = cl
                · have b2 : (ty == cl) = true := by simpa using c2
                  rw [b2] at E2
                  have HP2 : Hid ((pre ++ [((cf, cl), (sh, th))]) ++ al (la.drop (i + 1)) (lb.drop (k + 1)) = al la lb) := hidR (by rw [← HP.out, HS1.out, if_pos c1, if_pos c2]; simp)
                  clear HS1 HP
                  go_wp2
                  go_roundw
                  case rel => exact ⟨i + 1, k + 1, _, by omega, by omega, by go_num, by go_num, HP2, HJ5, HM5, HO5⟩
                  case measure => simp [intOf]; omega
                · have b2 : (ty == cl) = false := by simpa using c2
                  rw [b2] at E2
                  have HP2 : Hid ((pre ++ [((cf, cl), (sh, th))]) ++ al (la.drop (i + 1)) (lb.drop k) = al la lb) := hidR (by rw [← HP.out, HS1.out, if_pos c1, if_neg c2]; simp)
                  clear HS1 HP
                  go_wp2
                  go_roundw
                  case rel => exact ⟨i + 1, k, _, by omega, by omega, by go_num, by go_num, HP2, HJ5, HM5, HO5⟩
                  case measure => simp [intOf]; omega
              · have b1 : (sy == cl) = false := by simpa using c1
                rw [b1] at E1
                by_cases c2 : ty = cl
                · have b2 : (ty == cl) = true := by simpa using c2
                  rw [b2] at E2
                  have HP2 : Hid ((pre ++ [((cf, cl), (sh, th))]) ++ al (la.drop i) (lb.drop (k + 1)) = al la lb) := hidR (by rw [← HP.out, HS1.out, if_neg c1, if_pos c2]; simp)
                  clear HS1 HP
                  go_wp2
                  go_roundw
                  case rel => exact ⟨i, k + 1, _, by omega, by omega, by go_num, by go_num, HP2, HJ5, HM5, HO5⟩
                  case measure => simp [intOf]; omega
                · exact absurd HNO.out (by rintro (q | q); exact c1 q; exact c2 q)
            | false =>
              have hx5 : Jx (pre ++ [((cf, cl), (sh, th))]) W5 := by rcases hY5 with ⟨h, -⟩ | ⟨-, h⟩; cases h; exact h
              have HX5 := hidR hx5
              have HPx : Hid (pre ++ [((cf, cl), (sh, th))] <+: al la lb) := hidR (by rw [← HP.out, HS1.out]; exact ⟨_, by rw [List.append_assoc]; rfl⟩)
              clear hx5 hY5 HW HYY HM HJw
              refine wl_nil (P := Tryz.prog) (ops := #[]) ?_
              go_wp2
              refine bodyPost_ret (results_none rfl _ _ _) rfl ?_
              exact ⟨⟨_, rfl⟩, .inr ⟨_, HPx.out, HX5.out⟩⟩
      · have hd : ¬ k < lb.length := by omega
        have HE : Hid (pre = al la lb) := hidR (by
          have := HP.out
          rw [List.drop_eq_nil_of_le (show lb.length ≤ k by omega)] at this
          have e : al (la.drop i) [] = [] := by cases la.drop i <;> simp [al]
          rw [e, List.append_nil] at this
          exact this)
        go_wp2
        go_end0
        first | exact ⟨⟨_, rfl⟩, .inl ⟨pre, HE.out, HJw.out⟩⟩ | exact ⟨⟨_, rfl⟩, .inl (by rw [← HE.out]; exact HJw.out)⟩
    · have hd : ¬ i < la.length := by omega
      have HE : Hid (pre = al la lb) := hidR (by
        have := HP.out
        rw [List.drop_eq_nil_of_le (show la.length ≤ i by omega), al, List.append_nil] at this
        exact this)
      go_wp2
      go_end0
      first | exact ⟨⟨_, rfl⟩, .inl ⟨pre, HE.out, HJw.out⟩⟩ | exact ⟨⟨_, rfl⟩, .inl (by rw [← HE.out]; exact HJw.out)⟩
end Go.Proofs.YtonagfmkplbooaaGreatDoor
