/-
  Part 12 of the proof: 1 texts, one behind the other.
-/
import Derived.Test.YtdpmhpmnkollaaaPart8
import Derived.Test.YtdpmhpmnkollaaaPart11
namespace Go.Proofs.Ytdpmhpmnkollaaa
open Go.RowKit Go.Shelf
set_option linter.unusedSimpArgs false
set_option linter.unusedVariables false
attribute [local go_sem] Oper.semAt_some

def rowW8 : List (Int × Int) → List Value
  | [] => []
  | e :: t => .int .i64 e.1 :: .int .i64 e.2 :: rowW8 t
theorem rowW8_get : ∀ (A : List (Int × Int)) (j : Nat) (e : Int × Int), A[j]? = some e → (rowW8 A)[j * 2]? = some (.int .i64 e.1) ∧ (rowW8 A)[j * 2 + 1]? = some (.int .i64 e.2)
  | [], j, e, h => by simp at h
  | x :: A, 0, e, h => by simp at h; subst h; exact ⟨rfl, rfl⟩
  | x :: A, j + 1, e, h => by
    have := rowW8_get A j e (by simpa using h)
    rw [show (j + 1) * 2 = j * 2 + 2 by omega]
    exact this
theorem rowW8_set : ∀ (A : List (Int × Int)) (j : Nat) (x y : Int), j < A.length → ((rowW8 A).set (j * 2) (.int .i64 x)).set (j * 2 + 1) (.int .i64 y) = rowW8 (A.set j (x, y))
  | [], j, x, y, h => by simp at h
  | e :: A, 0, x, y, h => rfl
  | e :: A, j + 1, x, y, h => by
    have := rowW8_set A j x y (by simpa using h)
    rw [show (j + 1) * 2 = j * 2 + 2 by omega]
    show _ :: _ :: ((rowW8 A).set (j * 2) (.int .i64 x)).set (j * 2 + 1) (.int .i64 y) = _
    rw [this]; rfl
theorem rowW8_rep : ∀ (n : Nat), rowW8 (List.replicate n (0, 0)) = List.replicate (n * 2) (.int .i64 0)
  | 0 => rfl
  | n + 1 => by
    have := rowW8_rep n
    rw [List.replicate_succ, show (n + 1) * 2 = n * 2 + 1 + 1 by omega, List.replicate_succ, List.replicate_succ, ← this]
    rfl
theorem made_two18 (n : Nat) : madeCells #[.int .i64 0, .int .i64 0] n = (List.replicate n (.int .i64 0)).toArray := by
  unfold madeCells
  apply Array.ext
  · simp
  · intro i h1 h2
    simp only [Array.getElem_map, Array.getElem_range, List.getElem_toArray, List.getElem_replicate]
    have : i % 2 = 0 ∨ i % 2 = 1 := by omega
    show #[Value.int IntKind.i64 0, Value.int IntKind.i64 0][i % 2]! = _
    rcases this with q | q <;> rw [q] <;> rfl
theorem Try.infoW18 : (Try.prog.info? 167).map (fun i => (i.zero, i.size, i.bytes)) = some (some (.agg #[.int .i64 0, .int .i64 0]), 2, 16) := by kernel_rfl
def InW (N : Nat) (u v : Int) (A : List (Int × Int)) : Prop := A.length = N ∧ ∀ p ∈ A, 0 ≤ p.1 ∧ p.1 ≤ u ∧ 0 ≤ p.2 ∧ p.2 ≤ v
theorem InW.at {N : Nat} {u v : Int} {A : List (Int × Int)} (h : InW N u v A) (hu : 0 ≤ u) (hv : 0 ≤ v) (k : Nat) : 0 ≤ (A.getD k (0, 0)).1 ∧ (A.getD k (0, 0)).1 ≤ u ∧ 0 ≤ (A.getD k (0, 0)).2 ∧ (A.getD k (0, 0)).2 ≤ v := by
  rw [List.getD_eq_getElem?_getD]
  cases hk : A[k]? with
  | none => simp; omega
  | some p => exact h.2 p (List.mem_of_getElem? hk)
theorem InW.up {N : Nat} {u v B M : Int} {A : List (Int × Int)} (h : InW N u v A) (hB : 0 ≤ B ∧ B ≤ u) (hM : 0 ≤ M ∧ M ≤ v) (e : Bool × Int) : InW N u v (upX B M A e) := by
  unfold upX
  split
  · refine ⟨by simp [h.1], fun p hp => ?_⟩
    rcases List.mem_or_eq_of_mem_set hp with q | rfl
    · exact h.2 p q
    · have := h.at (by omega) (by omega) e.2.toNat
      dsimp only
      omega
  · exact h
theorem InW.ups {N : Nat} {u v B M : Int} (hB : 0 ≤ B ∧ B ≤ u) (hM : 0 ≤ M ∧ M ≤ v) : ∀ (es : List (Bool × Int)) {A : List (Int × Int)}, InW N u v A → InW N u v (es.foldl (upX B M) A)
  | [], _, h => h
  | e :: es, _, h => InW.ups hB hM es (h.up hB hM e)
theorem InW.more {N : Nat} {u u' v : Int} {A : List (Int × Int)} (h : InW N u v A) (hu : u ≤ u') : InW N u' v A := ⟨h.1, fun p hp => by have := h.2 p hp; omega⟩
structure MsM (w : World) (base Q : Nat) (vb : Value) (dp : Int) (L : List Bv) (P : List PB) (Z : Nat) (A : List (Int × Int)) (W : World) : Prop where
  p : PgV w W base Q vb dp 0 L P
  z : W.heap[Z]? = some (.cells (rowW8 A).toArray 167)
  bZ : base ≤ Z
section
variable {w W W' : World} {base Q : Nat} {vb : Value} {dp : Int} {L : List Bv} {P : List PB} {Z : Nat} {A : List (Int × Int)}
theorem PgV.sdp {an : Int} (h : PgV w W base Q vb dp an L P) (m : Int) : PgV w (W.setCell ⟨Q, 1, none⟩ (.int .i64 m)) base Q vb m an L P :=
  ⟨by rw [set_16 h.g]; rfl, h.b.far h.g (by decide) (by decide) (by decide) _, h.bQ, h.lo.setCell (p := ⟨Q, 1, none⟩) h.bQ _⟩
theorem PgV.c1 {an : Int} (h : PgV w W base Q vb dp an L P) : W.cell? ⟨Q, 1, none⟩ = some (.int .i64 dp) ∧ W.frozen? ⟨Q, 1, none⟩ = false := ⟨at_16 h.g 1 _ rfl, fr_16 h.g⟩
theorem MsM.below (h : MsM w base Q vb dp L P Z A W) (hb : Below W.heap.size W W') : MsM w base Q vb dp L P Z A W' := ⟨h.p.below hb, (hb.block _ (lt_16 h.z)).trans h.z, h.bZ⟩
theorem MsM.sdp (h : MsM w base Q vb dp L P Z A W) (m : Int) : MsM w base Q vb m L P Z A (W.setCell ⟨Q, 1, none⟩ (.int .i64 m)) :=
  ⟨h.p.sdp m, (far_16 (fun q => by
    have := h.p.g
    rw [← q, h.z] at this
    injection this with this
    injection this with _ h5 _
    exact absurd h5 (by decide))).trans h.z, h.bZ⟩
theorem MsM.set (h : MsM w base Q vb dp L P Z A W) (k : Nat) (hk : k < A.length) (x y : Int) : MsM w base Q vb dp L P Z (A.set k (x, y)) ((W.setCell ⟨Z, k * 2, none⟩ (.int .i64 x)).setCell ⟨Z, k * 2 + 1, none⟩ (.int .i64 y)) := by
  have h1 := h.p.far (o := k * 2) h.z (by decide) (by decide) (by decide) (by decide) h.bZ (.int .i64 x)
  have z1 := set_16 (o := k * 2) h.z (.int .i64 x)
  refine ⟨h1.far z1 (by decide) (by decide) (by decide) (by decide) h.bZ _, ?_, h.bZ⟩
  rw [set_16 z1, List.setIfInBounds_toArray, List.setIfInBounds_toArray, rowW8_set A k x y hk]
theorem MsM.cell (h : MsM w base Q vb dp L P Z A W) {k : Nat} (hk : k < A.length) : W.cell? ⟨Z, k * 2, none⟩ = some (.int .i64 (A.getD k (0, 0)).1) ∧ W.cell? ⟨Z, k * 2 + 1, none⟩ = some (.int .i64 (A.getD k (0, 0)).2) := by
  rw [List.getD_eq_getElem?_getD, List.getElem?_eq_getElem hk]
  obtain ⟨a, b⟩ := rowW8_get A k _ (List.getElem?_eq_getElem hk)
  exact ⟨at_16 h.z _ _ (by rw [List.getElem?_toArray, a]; rfl), at_16 h.z _ _ (by rw [List.getElem?_toArray, b]; rfl)⟩
end
structure MsI (w : World) (base Q : Nat) (vb : Value) (dp : Int) (L : List Bv) (P : List PB) (Z : Nat) (A : List (Int × Int)) (H : Nat) (hB hM : Int) (W : World) : Prop where
  m : MsM w base Q vb dp L P Z A W
  h : W.heap[H]? = some (.cells #[.int .i64 hB, .int .i64 hM] 167)
  n : H ≠ Z
section
variable {w W W' : World} {base Q : Nat} {vb : Value} {dp : Int} {L : List Bv} {P : List PB} {Z : Nat} {A : List (Int × Int)} {H : Nat} {hB hM : Int}
theorem MsI.below (h : MsI w base Q vb dp L P Z A H hB hM W) (hb : Below W.heap.size W W') : MsI w base Q vb dp L P Z A H hB hM W' := ⟨h.m.below hb, (hb.block _ (lt_16 h.h)).trans h.h, h.n⟩
theorem MsI.set (h : MsI w base Q vb dp L P Z A H hB hM W) (k : Nat) (hk : k < A.length) (x y : Int) : MsI w base Q vb dp L P Z (A.set k (x, y)) H hB hM ((W.setCell ⟨Z, k * 2, none⟩ (.int .i64 x)).setCell ⟨Z, k * 2 + 1, none⟩ (.int .i64 y)) :=
  ⟨h.m.set k hk x y, (far_16 h.n).trans ((far_16 h.n).trans h.h), h.n⟩
theorem MsI.hc (h : MsI w base Q vb dp L P Z A H hB hM W) : W.cell? ⟨H, 0, none⟩ = some (.int .i64 hB) ∧ W.cell? ⟨H, 1, none⟩ = some (.int .i64 hM) := ⟨at_16 h.h 0 _ rfl, at_16 h.h 1 _ rfl⟩
end
structure RS8 (R A E : World → Prop) (ld st : Bool) (X : World) : Prop where
  r : R X
  q : st = true → ld = true
  a : st = false → A X
  e : st = true → E X
theorem RS8.start {R A E : World → Prop} {X : World} (hr : R X) (ha : A X) : RS8 R A E false false X := ⟨hr, fun q => (by cases q), fun _ => ha, fun q => (by cases q)⟩
theorem RS8.ld {R A E : World → Prop} {ld st : Bool} {X : World} (h : RS8 R A E ld st X) : RS8 R A E true st X := ⟨h.r, fun _ => rfl, h.a, h.e⟩
theorem RS8.un {R A E : World → Prop} {ld st : Bool} {X : World} (h : RS8 R A E ld st X) (hl : ld = false) : A X := by
  cases st with
  | false => exact h.a rfl
  | true => have := h.q rfl; rw [hl] at this; cases this
theorem RS8.mv {R A E : World → Prop} {ld st : Bool} {X Y : World} (h : RS8 R A E ld st X) (hr : R X → R Y) (ha : A X → A Y) (he : E X → E Y) : RS8 R A E ld st Y := ⟨hr h.r, h.q, fun q => ha (h.a q), fun q => he (h.e q)⟩
theorem RS8.fin {R A E : World → Prop} {X : World} {ld : Bool} (hl : ld = true) (hr : R X) (he : E X) : RS8 R A E ld true X := ⟨hr, fun _ => hl, fun q => (by cases q), fun _ => he⟩
structure RA8 (V : World) (x y : Int) (al st : Bool) (g : Nat) (X : World) : Prop where
  lo : Below V.heap.size V X
  a : al = true → V.heap.size ≤ g ∧ X.heap[g]? = some (.cells (if st = true then #[.int .i64 x, .int .i64 y] else #[.int .i64 0, .int .i64 0]) 167)
  q : st = true → al = true
theorem RA8.al {V : World} {x y : Int} {st : Bool} {g : Nat} {X : World} (k : RA8 V x y false st g X) : RA8 V x y true st X.heap.size (X.alloc (.cells #[.int .i64 0, .int .i64 0] 167)) := by
  have h6 : st = false := by
    cases h : st with
    | false => rfl
    | true => exact absurd (k.q h) (by decide)
  subst h6
  exact ⟨keepb (bl1 _ _) k.lo, fun _ => ⟨k.lo.size, new_16 _ _⟩, fun _ => rfl⟩
theorem RA8.st {V : World} {x y : Int} {al : Bool} {g : Nat} {X : World} (k : RA8 V x y al false g X) (h5 : al = true) : RA8 V x y al true g ((X.setCell ⟨g, 0, none⟩ (.int .i64 x)).setCell ⟨g, 1, none⟩ (.int .i64 y)) := by
  obtain ⟨h1, h2⟩ := k.a h5
  refine ⟨(k.lo.setCell (p := ⟨g, 0, none⟩) h1 _).setCell (p := ⟨g, 1, none⟩) h1 _, fun _ => ⟨h1, ?_⟩, fun _ => h5⟩
  rw [set_16 (set_16 h2 _)]
  rfl
set_option maxRecDepth 20000 in
set_option maxHeartbeats 4000000 in
theorem most18 (a b c d : Int) (w : World) :
    Calls Try.prog 88 #[.agg #[.int .i64 a, .int .i64 b], .agg #[.int .i64 c, .int .i64 d]] w fun e w' => e = .returned (.agg #[.int .i64 (max a c), .int .i64 (max b d)]) ∧ Below w.heap.size w w' := by
  have x1 := fun w => max_16 a c w
  have x2 := fun w => max_16 b d w
  generalize max a c = A at *
  generalize max b d = B at *
  have HQ := hid13 (bl3 w (.cells #[.int .i64 a, .int .i64 b] 167) (.cells #[.int .i64 c, .int .i64 d] 167) (.cells #[.int .i64 A, .int .i64 B] 167))
  go_enter Try.func88, Try.ntmps88
  go_wp2
  exact bodyPost_ret (v := .agg #[.int .i64 A, .int .i64 B]) (by simp [results, Try.results88, go_sem]) rfl ⟨rfl, HQ.out⟩
def MsQ (w : World) (base Q : Nat) (vb : Value) (L : List Bv) (P : List PB) (F : Int) (e : Ending) (W' : World) : Prop :=
  e = .returned (.tuple #[.int .i64 (msR F P).2.1, .int .i64 (msR F P).2.2]) ∧ ((msR F P).2.2 = 0 → PgV w W' base Q vb (msR F P).1 0 L P) ∧ Below base w W'
set_option maxRecDepth 20000 in
set_option maxHeartbeats 16000000 in
theorem measure18 (w0 w : World) (base Q : Nat) (vb : Value) (L : List Bv) (P : List PB) (F : Int) (h : PgV w0 w base Q vb 0 0 L P) (hF : 0 ≤ F ∧ F ≤ 1000) (h0 : 0 < P.length) (hl : P.length ≤ 100000000) (hb : ∀ b ∈ P, (0 ≤ b.t ∧ b.t ≤ 1000) ∧ b.es.length ≤ 100000000 ∧ ∀ e ∈ b.es, e.1 = true → 0 ≤ e.2 ∧ e.2 < P.length) :
    Calls Try.prog 65 #[.pointer (some ⟨Q, 0, none⟩), .int .i64 F] w (MsQ w0 base Q vb L P F) := by
  obtain ⟨i0, hi, hz0, hz1, hz2⟩ := info13 Try.infoW18
  obtain ⟨gv, c, hvb, -⟩ := own_some18 h.b.o (by rw [h.b.l]; exact h0)
  subst hvb
  have hLl := h.b.l
  have HP0 := hid13 h
  have HB := hid13 hb
  have HF0 := hid13 hF
  have c0 := h.c0
  obtain ⟨n, hn⟩ : ∃ n, n = P.length := ⟨_, rfl⟩
  rw [hLl, ← hn] at c0
  have HN : Hid (n = P.length ∧ 0 < n ∧ n ≤ 100000000 ∧ L.length = n) := ⟨hn, by omega, by omega, by omega⟩
  have HR0 : Hid (msG F P 0 (List.replicate n (0, 0)) 0 = msR F P) := by show _ = _; rw [hn]; rfl
  clear h h0 hl hb hLl hn hF
  go_enter Try.func65, Try.ntmps65
  go_wp2_with (at_make; apply stopHere9)
  refine (show wpList _ _ _ _ _ _ from ?_)
  refine wpList_make16 _ rfl _ _ 165 rfl 167 i0 (.agg #[.int .i64 0, .int .i64 0]) Try.underlying165 hi hz0 .i64 .i64 _ _ n n rfl rfl rfl rfl (Nat.le_refl _) (by rw [hz2]; have := HN.out; omega) (by unfold maxLen; have := HN.out; omega) ?_
  have eO : madeCells (Value.agg #[.int .i64 0, .int .i64 0]).cells (n * i0.size) = (rowW8 (List.replicate n (0, 0))).toArray := by rw [hz1, rowW8_rep]; exact made_two18 _
  rw [eO]
  clear eO
  obtain ⟨O, hO⟩ : ∃ O : Obj, O = .cells (rowW8 (List.replicate n (0, 0))).toArray 167 := ⟨_, rfl⟩
  rw [← hO]
  have q1 := bl1 w O
  have HU1 : Hid (MsM w0 base Q (.slice (some ⟨gv, 0, none⟩) L.length c) 0 L P w.heap.size (List.replicate n (0, 0)) (w.alloc O)) := hid13 ⟨HP0.out.below q1, by rw [← hO]; exact new_16 _ _, HP0.out.sz⟩
  have c2 : (w.alloc O).cell? ⟨Q, 0, none⟩ = some (.slice (some ⟨gv, 0, none⟩) n c) := keepc q1 c0
  clear hO q1 c0
  go_wp2_with fail
  clear c2
  obtain ⟨Z, hZ⟩ : ∃ Z, Z = w.heap.size := ⟨_, rfl⟩
  rw [← hZ] at HU1 ⊢
  revert HU1
  generalize w.alloc O = W0
  intro HU1
  clear hZ HP0
  go_loopg [23] n (fun gk jv wr => ∃ (j : Nat) (A0 B : List PB) (dp : Int) (A : List (Int × Int)), j + gk = n ∧ jv = .int .i64 (j : Int) ∧ Hid (P = A0 ++ B ∧ A0.length = j ∧ msG F B j A dp = msR F P ∧ InW n (j : Int) F A ∧ MsM w0 base Q (.slice (some ⟨gv, 0, none⟩) L.length c) dp L P Z A wr))
  case atStart => exact ⟨0, [], P, 0, _, by omega, rfl, hid13 ⟨rfl, rfl, HR0.out, ⟨by simp, fun p hp => by rw [List.eq_of_mem_replicate hp]; have := HF0.out; simp; omega⟩, HU1.out⟩⟩
  case round =>
    clear HU1 HR0
    obtain ⟨j, A0, B, dp, A, hk, rfl, HI⟩ := hrel
    by_cases hlt : (j : Int) < (n : Int)
    · obtain ⟨b, B', hB⟩ : ∃ b B', B = b :: B' := by
        cases hB : B with
        | nil =>
          have e1 := HI.out.1
          have e2 := HI.out.2.1
          rw [hB, List.append_nil] at e1
          have := HN.out
          rw [e1] at *
          omega
        | cons b B' => exact ⟨b, B', rfl⟩
      subst hB
      obtain ⟨hPA, hjA, hms, hIn, hU⟩ := HI.out
      have hmem : b ∈ P := by rw [hPA]; simp
      have hbb := HB.out b hmem
      have hge : P[j]? = some b := by rw [hPA, ← hjA]; simp
      obtain ⟨x, hx, hxa, hxt, hxo, d0, d1, d2, d3⟩ := hU.p.blk hge
      obtain ⟨so, sc, hso⟩ := own_form hxo.2.2.1
      obtain ⟨eo, ec, heo⟩ := own_form hxo.2.2.2
      rw [hso] at d2
      rw [heo] at d3
      have hat := hIn.at (by omega) HF0.out.1 j
      obtain ⟨pa, hpa⟩ : ∃ y, y = (A.getD j (0, 0)).1 := ⟨_, rfl⟩
      obtain ⟨pb, hpb⟩ : ∃ y, y = (A.getD j (0, 0)).2 := ⟨_, rfl⟩
      rw [← hpa, ← hpb] at hat
      have hst : msG F (b :: B') j A dp = if F < pb + b.t then (0, b.a, 27) else msG F B' (j + 1) (b.es.foldl (upX (pa + 1) (pb + b.t)) A) (max dp (pa + 1)) := by rw [hpa, hpb]; rfl
      rw [hst] at hms
      have HX : Hid (P[j]? = some b ∧ L[j]? = some x ∧ x.ve = .slice eo b.es.length ec) := ⟨hge, hx, heo⟩
      have HPA : Hid (P = (A0 ++ [b]) ++ B' ∧ (A0 ++ [b]).length = j + 1) := ⟨by rw [hPA]; simp, by rw [List.length_append, hjA]; rfl⟩
      have HBb := hid13 hbb
      have HIn := hid13 hIn
      have mj : IntKind.i64.wrap ((j : Int) + 1) = ((j + 1 : Nat) : Int) := by rw [IntKind.wrap_i64]; have := HN.out; push_cast; omega
      obtain ⟨hB, hhB⟩ : ∃ y, y = pa + 1 := ⟨_, rfl⟩
      obtain ⟨hM, hhM⟩ : ∃ y, y = pb + b.t := ⟨_, rfl⟩
      rw [← hhB, ← hhM] at hms
      have HHB : Hid ((0 ≤ hB ∧ hB ≤ (j : Int) + 1) ∧ 0 ≤ hM) := ⟨by omega, by omega⟩
      have HMs := hid13 hms
      have m1 : IntKind.i64.wrap (pa + 1) = hB := by rw [IntKind.wrap_i64, hhB]; have := HN.out; omega
      obtain ⟨ba, hba⟩ : ∃ y, y = b.a := ⟨_, rfl⟩
      obtain ⟨bt, hbt⟩ : ∃ y, y = b.t := ⟨_, rfl⟩
      obtain ⟨bm, hbm⟩ : ∃ y, y = b.m.length := ⟨_, rfl⟩
      obtain ⟨bn, hbn⟩ : ∃ y, y = b.es.length := ⟨_, rfl⟩
      have m2 : IntKind.i64.wrap (pb + bt) = hM := by rw [IntKind.wrap_i64, hhM, hbt]; have := HF0.out; omega
      rw [← hba] at d0 HMs
      rw [← hbt] at d1
      rw [← hbm] at d2
      rw [← hbn] at d3 HX HBb
      have HBn := hid13 hbn
      have q1 := bl1 wr (.cells #[.int .i64 ba, .int .i64 bt, .slice so bm sc, .slice eo bn ec] 111)
      have hU1 := hU.below q1
      have HU1 := hid13 hU1
      have zs : Z < wr.heap.size := lt_16 hU.z
      have HZs : Hid (Z < wr.heap.size ∧ Q < wr.heap.size) := ⟨zs, lt_16 hU.p.g⟩
      have HW0 : Hid ((wr.alloc (.cells #[.int .i64 ba, .int .i64 bt, .slice so bm sc, .slice eo bn ec] 111)).heap[wr.heap.size]? = some (.cells #[.int .i64 ba, .int .i64 bt, .slice so bm sc, .slice eo bn ec] 111)) := hid13 (new_16 _ _)
      obtain ⟨y1, y2⟩ := hU1.cell (k := j) (by rw [hIn.1]; omega)
      rw [← hpa] at y1
      rw [← hpb] at y2
      have HY : Hid ((wr.alloc (.cells #[.int .i64 ba, .int .i64 bt, .slice so bm sc, .slice eo bn ec] 111)).cell? ⟨Z, j * 2, none⟩ = some (.int .i64 pa) ∧ (wr.alloc (.cells #[.int .i64 ba, .int .i64 bt, .slice so bm sc, .slice eo bn ec] 111)).cell? ⟨Z, j * 2 + 1, none⟩ = some (.int .i64 pb) ∧ (wr.alloc (.cells #[.int .i64 ba, .int .i64 bt, .slice so bm sc, .slice eo bn ec] 111)).cell? ⟨wr.heap.size, 1, none⟩ = some (.int .i64 bt)) := ⟨y1, y2, at_16 HW0.out 1 _ rfl⟩
      have HA0 : Hid (RA8 (wr.alloc (.cells #[.int .i64 ba, .int .i64 bt, .slice so bm sc, .slice eo bn ec] 111)) hB hM false false 0 (wr.alloc (.cells #[.int .i64 ba, .int .i64 bt, .slice so bm sc, .slice eo bn ec] 111)).drew) := ⟨(Below.refl _ _).drew, fun q => (by cases q), fun q => (by cases q)⟩
      obtain ⟨GK, hGK⟩ : ∃ GK, GK = gk := ⟨_, rfl⟩
      have HJ : Hid (j + GK = n ∧ GK = gk ∧ j < n) := ⟨by omega, hGK, by omega⟩
      have HM12 : Hid (IntKind.i64.wrap (pa + 1) = hB ∧ IntKind.i64.wrap (pb + bt) = hM) := ⟨m1, m2⟩
      clear hPA hjA hU hU1 hmem hbb hge hx hxa hxt hxo hso heo q1 hGK hk HI hba hbt hbm hbn hms hIn hat hst hpa hpb hhB hhM y1 y2 zs m1 m2
      go_wp2_with fail
      clear d0 d1 d2 d3
      obtain ⟨m1, m2⟩ := HM12.out
      refine gh_region (γ := Nat) (qpOk 17 17 (by decide) (fun N => by kernel_rfl) (by kernel_rfl) (by kernel_rfl) (by kernel_rfl) (by kernel_rfl)) (by kernel_rfl) (by kernel_rfl) [some 28, some 29, some 30, some 31, some 32, some 33, some 34, some 35, some 36, some 37, some 38, some 39, some 40, some 41, some 42, some 9, none] (fun g => [.slice (some ⟨Z, 0, none⟩) n n, .int .i64 (j : Int), .pointer (some ⟨Z, j * 2, none⟩), .pointer (some ⟨Z, j * 2, none⟩), .int .i64 pa, .int .i64 hB, .slice (some ⟨Z, 0, none⟩) n n, .int .i64 (j : Int), .pointer (some ⟨Z, j * 2, none⟩), .pointer (some ⟨Z, j * 2 + 1, none⟩), .int .i64 pb, .pointer (some ⟨wr.heap.size, 1, none⟩), .int .i64 bt, .int .i64 hM, .agg #[.int .i64 hB, .int .i64 hM], .pointer (some ⟨g, 0, none⟩), undef]) (by kernel_rfl) (by simp) (fun lp g X => RA8 (wr.alloc (.cells #[.int .i64 ba, .int .i64 bt, .slice so bm sc, .slice eo bn ec] 111)) hB hM (lp.getD 15 false) (lp.getD 16 false) g X) 0 HA0.out ?step5 ?fin5
      case step5 =>
        intro q o lp g w' a' ho hsz hun hdep hR hS K Q' hK
        have hfl : ∀ j, j ≠ q → (lp.setIfInBounds q true).getD j false = lp.getD j false := fun j hj => by rw [Array.getD_eq_getD_getElem?, Array.getD_eq_getD_getElem?, Array.getElem?_setIfInBounds_ne (by omega)]
        have hq : q < 17 := (List.getElem?_eq_some_iff.mp ho).1
        match q, ho, hun, hdep, hK, hfl, hq with
        | 0, ho, hun, hdep, hK, hfl, _ =>
          obtain rfl := Option.some.inj ho
          have o6 : a'.tmps[6]? = some (.slice (some ⟨Z, 0, none⟩) n n) := (hS.old14 6 (by simp)).trans rfl
          have hK' := hK g w' (fun _ _ _ _ _ _ => rfl) (by rw [hfl 15 (by decide), hfl 16 (by decide)]; exact hR) (.slice (some ⟨Z, 0, none⟩) n n) (by simp only [valO, Option.bind_some]; (try simp only [putAll, Act.put, List.setIfInBounds_toArray, List.set_cons_zero, List.set_cons_succ]); (try rfl))
          clear hS hdep hR
          refine gh_quiet14 (v := .slice (some ⟨Z, 0, none⟩) n n) ?_ ?_
          · (simp only [execOp, Act.eval, o6]; go_simp; first | done | (simp; done) | (simp [*]; done) | omega | (rw [IntKind.wrap_i64]; omega))
          · exact hK'
        | 1, ho, hun, hdep, hK, hfl, _ =>
          obtain rfl := Option.some.inj ho
          have o7 : a'.tmps[7]? = some (.int .i64 (j : Int)) := (hS.old14 7 (by simp)).trans rfl
          have hK' := hK g w' (fun _ _ _ _ _ _ => rfl) (by rw [hfl 15 (by decide), hfl 16 (by decide)]; exact hR) (.int .i64 (j : Int)) (by simp only [valO, Option.bind_some]; (try simp only [putAll, Act.put, List.setIfInBounds_toArray, List.set_cons_zero, List.set_cons_succ]); (try rfl))
          clear hS hdep hR
          refine gh_quiet14 (v := .int .i64 (j : Int)) ?_ ?_
          · (simp only [execOp, Act.eval, o7]; go_simp; first | done | (simp; done) | (simp [*]; done) | omega | (rw [IntKind.wrap_i64]; omega))
          · exact hK'
        | 2, ho, hun, hdep, hK, hfl, _ =>
          obtain rfl := Option.some.inj ho
          have d0 : lp.getD 0 false = true := hdep { on := 0, ground := .data } (by simp) rfl
          have e28 : a'.tmps[28]? = some (.slice (some ⟨Z, 0, none⟩) n n) := (hS.don 0 _ 28 rfl d0 rfl).trans (by simp only [putAll, Act.put, List.setIfInBounds_toArray, List.set_cons_zero, List.set_cons_succ]; rfl)
          have d1 : lp.getD 1 false = true := hdep { on := 1, ground := .data } (by simp) rfl
          have e29 : a'.tmps[29]? = some (.int .i64 (j : Int)) := (hS.don 1 _ 29 rfl d1 rfl).trans (by simp only [putAll, Act.put, List.setIfInBounds_toArray, List.set_cons_zero, List.set_cons_succ]; rfl)
          have hK' := hK g w' (fun _ _ _ _ _ _ => rfl) (by rw [hfl 15 (by decide), hfl 16 (by decide)]; exact hR) (.pointer (some ⟨Z, j * 2, none⟩)) (by simp only [valO, Option.bind_some]; (try simp only [putAll, Act.put, List.setIfInBounds_toArray, List.set_cons_zero, List.set_cons_succ]); (try rfl))
          clear hS hdep hR
          refine gh_quiet14 (v := .pointer (some ⟨Z, j * 2, none⟩)) ?_ ?_
          · (simp only [execOp, Act.eval, e28, e29]; go_simp; first | done | (simp; done) | (simp [*]; done) | omega | (rw [IntKind.wrap_i64]; omega))
          · exact hK'
        | 3, ho, hun, hdep, hK, hfl, _ =>
          obtain rfl := Option.some.inj ho
          have d2 : lp.getD 2 false = true := hdep { on := 2, ground := .data } (by simp) rfl
          have e30 : a'.tmps[30]? = some (.pointer (some ⟨Z, j * 2, none⟩)) := (hS.don 2 _ 30 rfl d2 rfl).trans (by simp only [putAll, Act.put, List.setIfInBounds_toArray, List.set_cons_zero, List.set_cons_succ]; rfl)
          have hK' := hK g w' (fun _ _ _ _ _ _ => rfl) (by rw [hfl 15 (by decide), hfl 16 (by decide)]; exact hR) (.pointer (some ⟨Z, j * 2, none⟩)) (by simp only [valO, Option.bind_some]; (try simp only [putAll, Act.put, List.setIfInBounds_toArray, List.set_cons_zero, List.set_cons_succ]); (try rfl))
          clear hS hdep hR
          refine gh_quiet14 (v := .pointer (some ⟨Z, j * 2, none⟩)) ?_ ?_
          · (simp only [execOp, Act.eval, e30]; go_simp; first | done | (simp; done) | (simp [*]; done) | omega | (rw [IntKind.wrap_i64]; omega))
          · exact hK'
        | 4, ho, hun, hdep, hK, hfl, _ =>
          obtain rfl := Option.some.inj ho
          have d3 : lp.getD 3 false = true := hdep { on := 3, ground := .data } (by simp) rfl
          have e31 : a'.tmps[31]? = some (.pointer (some ⟨Z, j * 2, none⟩)) := (hS.don 3 _ 31 rfl d3 rfl).trans (by simp only [putAll, Act.put, List.setIfInBounds_toArray, List.set_cons_zero, List.set_cons_succ]; rfl)
          have k1 := keepc hR.lo HY.out.1
          have hK' := hK g w' (fun _ _ _ _ _ _ => rfl) (by rw [hfl 15 (by decide), hfl 16 (by decide)]; exact hR) (.int .i64 pa) (by simp only [valO, Option.bind_some]; (try simp only [putAll, Act.put, List.setIfInBounds_toArray, List.set_cons_zero, List.set_cons_succ]); (try rfl))
          clear hS hdep hR
          refine gh_quiet14 (v := .int .i64 pa) ?_ ?_
          · (simp only [execOp, Act.eval, e31]; go_simp; first | done | (simp; done) | (simp [*]; done) | omega | (rw [IntKind.wrap_i64]; omega))
          · exact hK'
        | 5, ho, hun, hdep, hK, hfl, _ =>
          obtain rfl := Option.some.inj ho
          have d4 : lp.getD 4 false = true := hdep { on := 4, ground := .data } (by simp) rfl
          have e32 : a'.tmps[32]? = some (.int .i64 pa) := (hS.don 4 _ 32 rfl d4 rfl).trans (by simp only [putAll, Act.put, List.setIfInBounds_toArray, List.set_cons_zero, List.set_cons_succ]; rfl)
          have hK' := hK g w' (fun _ _ _ _ _ _ => rfl) (by rw [hfl 15 (by decide), hfl 16 (by decide)]; exact hR) (.int .i64 hB) (by simp only [valO, Option.bind_some]; (try simp only [putAll, Act.put, List.setIfInBounds_toArray, List.set_cons_zero, List.set_cons_succ]); (try rfl))
          clear hS hdep hR
          refine gh_quiet14 (v := .int .i64 hB) ?_ ?_
          · (simp only [execOp, Act.eval, e32]; go_simp; first | done | (simp; done) | (simp [*]; done) | omega | (rw [IntKind.wrap_i64]; omega))
          · exact hK'
        | 6, ho, hun, hdep, hK, hfl, _ =>
          obtain rfl := Option.some.inj ho
          have o6 : a'.tmps[6]? = some (.slice (some ⟨Z, 0, none⟩) n n) := (hS.old14 6 (by simp)).trans rfl
          have hK' := hK g w' (fun _ _ _ _ _ _ => rfl) (by rw [hfl 15 (by decide), hfl 16 (by decide)]; exact hR) (.slice (some ⟨Z, 0, none⟩) n n) (by simp only [valO, Option.bind_some]; (try simp only [putAll, Act.put, List.setIfInBounds_toArray, List.set_cons_zero, List.set_cons_succ]); (try rfl))
          clear hS hdep hR
          refine gh_quiet14 (v := .slice (some ⟨Z, 0, none⟩) n n) ?_ ?_
          · (simp only [execOp, Act.eval, o6]; go_simp; first | done | (simp; done) | (simp [*]; done) | omega | (rw [IntKind.wrap_i64]; omega))
          · exact hK'
        | 7, ho, hun, hdep, hK, hfl, _ =>
          obtain rfl := Option.some.inj ho
          have o7 : a'.tmps[7]? = some (.int .i64 (j : Int)) := (hS.old14 7 (by simp)).trans rfl
          have hK' := hK g w' (fun _ _ _ _ _ _ => rfl) (by rw [hfl 15 (by decide), hfl 16 (by decide)]; exact hR) (.int .i64 (j : Int)) (by simp only [valO, Option.bind_some]; (try simp only [putAll, Act.put, List.setIfInBounds_toArray, List.set_cons_zero, List.set_cons_succ]); (try rfl))
          clear hS hdep hR
          refine gh_quiet14 (v := .int .i64 (j : Int)) ?_ ?_
          · (simp only [execOp, Act.eval, o7]; go_simp; first | done | (simp; done) | (simp [*]; done) | omega | (rw [IntKind.wrap_i64]; omega))
          · exact hK'
        | 8, ho, hun, hdep, hK, hfl, _ =>
          obtain rfl := Option.some.inj ho
          have d6 : lp.getD 6 false = true := hdep { on := 6, ground := .data } (by simp) rfl
          have e34 : a'.tmps[34]? = some (.slice (some ⟨Z, 0, none⟩) n n) := (hS.don 6 _ 34 rfl d6 rfl).trans (by simp only [putAll, Act.put, List.setIfInBounds_toArray, List.set_cons_zero, List.set_cons_succ]; rfl)
          have d7 : lp.getD 7 false = true := hdep { on := 7, ground := .data } (by simp) rfl
          have e35 : a'.tmps[35]? = some (.int .i64 (j : Int)) := (hS.don 7 _ 35 rfl d7 rfl).trans (by simp only [putAll, Act.put, List.setIfInBounds_toArray, List.set_cons_zero, List.set_cons_succ]; rfl)
          have hK' := hK g w' (fun _ _ _ _ _ _ => rfl) (by rw [hfl 15 (by decide), hfl 16 (by decide)]; exact hR) (.pointer (some ⟨Z, j * 2, none⟩)) (by simp only [valO, Option.bind_some]; (try simp only [putAll, Act.put, List.setIfInBounds_toArray, List.set_cons_zero, List.set_cons_succ]); (try rfl))
          clear hS hdep hR
          refine gh_quiet14 (v := .pointer (some ⟨Z, j * 2, none⟩)) ?_ ?_
          · (simp only [execOp, Act.eval, e34, e35]; go_simp; first | done | (simp; done) | (simp [*]; done) | omega | (rw [IntKind.wrap_i64]; omega))
          · exact hK'
        | 9, ho, hun, hdep, hK, hfl, _ =>
          obtain rfl := Option.some.inj ho
          have d8 : lp.getD 8 false = true := hdep { on := 8, ground := .data } (by simp) rfl
          have e36 : a'.tmps[36]? = some (.pointer (some ⟨Z, j * 2, none⟩)) := (hS.don 8 _ 36 rfl d8 rfl).trans (by simp only [putAll, Act.put, List.setIfInBounds_toArray, List.set_cons_zero, List.set_cons_succ]; rfl)
          have hK' := hK g w' (fun _ _ _ _ _ _ => rfl) (by rw [hfl 15 (by decide), hfl 16 (by decide)]; exact hR) (.pointer (some ⟨Z, j * 2 + 1, none⟩)) (by simp only [valO, Option.bind_some]; (try simp only [putAll, Act.put, List.setIfInBounds_toArray, List.set_cons_zero, List.set_cons_succ]); (try rfl))
          clear hS hdep hR
          refine gh_quiet14 (v := .pointer (some ⟨Z, j * 2 + 1, none⟩)) ?_ ?_
          · (simp only [execOp, Act.eval, e36]; go_simp; first | done | (simp; done) | (simp [*]; done) | omega | (rw [IntKind.wrap_i64]; omega))
          · exact hK'
        | 10, ho, hun, hdep, hK, hfl, _ =>
          obtain rfl := Option.some.inj ho
          have d9 : lp.getD 9 false = true := hdep { on := 9, ground := .data } (by simp) rfl
          have e37 : a'.tmps[37]? = some (.pointer (some ⟨Z, j * 2 + 1, none⟩)) := (hS.don 9 _ 37 rfl d9 rfl).trans (by simp only [putAll, Act.put, List.setIfInBounds_toArray, List.set_cons_zero, List.set_cons_succ]; rfl)
          have k1 := keepc hR.lo HY.out.2.1
          have hK' := hK g w' (fun _ _ _ _ _ _ => rfl) (by rw [hfl 15 (by decide), hfl 16 (by decide)]; exact hR) (.int .i64 pb) (by simp only [valO, Option.bind_some]; (try simp only [putAll, Act.put, List.setIfInBounds_toArray, List.set_cons_zero, List.set_cons_succ]); (try rfl))
          clear hS hdep hR
          refine gh_quiet14 (v := .int .i64 pb) ?_ ?_
          · (simp only [execOp, Act.eval, e37]; go_simp; first | done | (simp; done) | (simp [*]; done) | omega | (rw [IntKind.wrap_i64]; omega))
          · exact hK'
        | 11, ho, hun, hdep, hK, hfl, _ =>
          obtain rfl := Option.some.inj ho
          have o8 : a'.tmps[8]? = some (.pointer (some ⟨wr.heap.size, 0, none⟩)) := (hS.old14 8 (by simp)).trans rfl
          have hK' := hK g w' (fun _ _ _ _ _ _ => rfl) (by rw [hfl 15 (by decide), hfl 16 (by decide)]; exact hR) (.pointer (some ⟨wr.heap.size, 1, none⟩)) (by simp only [valO, Option.bind_some]; (try simp only [putAll, Act.put, List.setIfInBounds_toArray, List.set_cons_zero, List.set_cons_succ]); (try rfl))
          clear hS hdep hR
          refine gh_quiet14 (v := .pointer (some ⟨wr.heap.size, 1, none⟩)) ?_ ?_
          · (simp only [execOp, Act.eval, o8]; go_simp; first | done | (simp; done) | (simp [*]; done) | omega | (rw [IntKind.wrap_i64]; omega))
          · exact hK'
        | 12, ho, hun, hdep, hK, hfl, _ =>
          obtain rfl := Option.some.inj ho
          have d11 : lp.getD 11 false = true := hdep { on := 11, ground := .data } (by simp) rfl
          have e39 : a'.tmps[39]? = some (.pointer (some ⟨wr.heap.size, 1, none⟩)) := (hS.don 11 _ 39 rfl d11 rfl).trans (by simp only [putAll, Act.put, List.setIfInBounds_toArray, List.set_cons_zero, List.set_cons_succ]; rfl)
          have k1 := keepc hR.lo HY.out.2.2
          have hK' := hK g w' (fun _ _ _ _ _ _ => rfl) (by rw [hfl 15 (by decide), hfl 16 (by decide)]; exact hR) (.int .i64 bt) (by simp only [valO, Option.bind_some]; (try simp only [putAll, Act.put, List.setIfInBounds_toArray, List.set_cons_zero, List.set_cons_succ]); (try rfl))
          clear hS hdep hR
          refine gh_quiet14 (v := .int .i64 bt) ?_ ?_
          · (simp only [execOp, Act.eval, e39]; go_simp; first | done | (simp; done) | (simp [*]; done) | omega | (rw [IntKind.wrap_i64]; omega))
          · exact hK'
        | 13, ho, hun, hdep, hK, hfl, _ =>
          obtain rfl := Option.some.inj ho
          have d10 : lp.getD 10 false = true := hdep { on := 10, ground := .data } (by simp) rfl
          have e38 : a'.tmps[38]? = some (.int .i64 pb) := (hS.don 10 _ 38 rfl d10 rfl).trans (by simp only [putAll, Act.put, List.setIfInBounds_toArray, List.set_cons_zero, List.set_cons_succ]; rfl)
          have d12 : lp.getD 12 false = true := hdep { on := 12, ground := .data } (by simp) rfl
          have e40 : a'.tmps[40]? = some (.int .i64 bt) := (hS.don 12 _ 40 rfl d12 rfl).trans (by simp only [putAll, Act.put, List.setIfInBounds_toArray, List.set_cons_zero, List.set_cons_succ]; rfl)
          have hK' := hK g w' (fun _ _ _ _ _ _ => rfl) (by rw [hfl 15 (by decide), hfl 16 (by decide)]; exact hR) (.int .i64 hM) (by simp only [valO, Option.bind_some]; (try simp only [putAll, Act.put, List.setIfInBounds_toArray, List.set_cons_zero, List.set_cons_succ]); (try rfl))
          clear hS hdep hR
          refine gh_quiet14 (v := .int .i64 hM) ?_ ?_
          · (simp only [execOp, Act.eval, e38, e40]; go_simp; first | done | (simp; done) | (simp [*]; done) | omega | (rw [IntKind.wrap_i64]; omega))
          · exact hK'
        | 14, ho, hun, hdep, hK, hfl, _ =>
          obtain rfl := Option.some.inj ho
          have d5 : lp.getD 5 false = true := hdep { on := 5, ground := .data } (by simp) rfl
          have e33 : a'.tmps[33]? = some (.int .i64 hB) := (hS.don 5 _ 33 rfl d5 rfl).trans (by simp only [putAll, Act.put, List.setIfInBounds_toArray, List.set_cons_zero, List.set_cons_succ]; rfl)
          have d13 : lp.getD 13 false = true := hdep { on := 13, ground := .data } (by simp) rfl
          have e41 : a'.tmps[41]? = some (.int .i64 hM) := (hS.don 13 _ 41 rfl d13 rfl).trans (by simp only [putAll, Act.put, List.setIfInBounds_toArray, List.set_cons_zero, List.set_cons_succ]; rfl)
          have hK' := hK g w' (fun _ _ _ _ _ _ => rfl) (by rw [hfl 15 (by decide), hfl 16 (by decide)]; exact hR) (.agg #[.int .i64 hB, .int .i64 hM]) (by simp only [valO, Option.bind_some]; (try simp only [putAll, Act.put, List.setIfInBounds_toArray, List.set_cons_zero, List.set_cons_succ]); (try rfl))
          clear hS hdep hR
          refine gh_quiet14 (v := .agg #[.int .i64 hB, .int .i64 hM]) ?_ ?_
          · (simp only [execOp, Act.eval, e33, e41]; go_simp; first | done | (simp; done) | (simp [*]; done) | omega | (rw [IntKind.wrap_i64]; omega))
          · exact hK'
        | 15, ho, hun, hdep, hK, hfl, _ =>
          obtain rfl := Option.some.inj ho
          rw [hun] at hR
          have hK' := hK w'.heap.size (w'.alloc (.cells #[.int .i64 0, .int .i64 0] 167)) (fun k' ok s hk hl hd => gh_same14 (d := 9) (s := s) (by simp only [putAll, Act.put, List.setIfInBounds_toArray, List.set_cons_zero, List.set_cons_succ]; rfl) (by rintro rfl; have := dstG_of (by kernel_rfl) k' 15 ok _ 9 hk rfl hd rfl; subst this; rw [hun] at hl; cases hl)) (by rw [hfl 16 (by decide), getD_set_same (by rw [hsz]; decide)]; exact hR.al) (.pointer (some ⟨w'.heap.size, 0, none⟩)) (by simp only [valO, Option.bind_some]; simp only [putAll, Act.put, List.setIfInBounds_toArray, List.set_cons_zero, List.set_cons_succ]; rfl)
          clear hS hdep hR
          unfold Oper.wp
          simp only [execOp]
          go_simp
          exact hK'
        | 16, ho, hun, hdep, hK, hfl, _ =>
          obtain rfl := Option.some.inj ho
          have d14 : lp.getD 14 false = true := hdep { on := 14, ground := .data } (by simp) rfl
          have e42 : a'.tmps[42]? = some (.agg #[.int .i64 hB, .int .i64 hM]) := (hS.don 14 _ 42 rfl d14 rfl).trans (by simp only [putAll, Act.put, List.setIfInBounds_toArray, List.set_cons_zero, List.set_cons_succ]; rfl)
          have d15 : lp.getD 15 false = true := hdep { on := 15, ground := .data } (by simp) rfl
          have e9 : a'.tmps[9]? = some (.pointer (some ⟨g, 0, none⟩)) := (hS.don 15 _ 9 rfl d15 rfl).trans (by simp only [putAll, Act.put, List.setIfInBounds_toArray, List.set_cons_zero, List.set_cons_succ]; rfl)
          rw [hun] at hR
          have hz := (hR.a d15).2
          simp only [Bool.false_eq_true, if_false] at hz
          have z0 := at_16 hz 0 _ rfl
          have z1 := at_16 hz 1 _ rfl
          have k0 := fr_16 (j := 0) hz
          have k1 := fr_16 (j := 1) hz
          have hK' := hK g _ (fun _ _ _ _ _ _ => rfl) (by rw [hfl 15 (by decide), getD_set_same (by rw [hsz]; decide)]; exact hR.st d15) undef rfl
          clear hS hdep hR hz
          unfold Oper.wp
          simp [execOp, Act.eval, e42, e9, go_sem, z0, z1, k0, k1, Oper.upon]
          exact hK'
        | n + 17, ho, hun, hdep, hK, hfl, hq => exact absurd hq (by omega)
      case fin5 =>
        intro N V hR
        have hR : RA8 (wr.alloc (.cells #[.int .i64 ba, .int .i64 bt, .slice so bm sc, .slice eo bn ec] 111)) hB hM true true N V := by simpa using hR
        obtain ⟨hN, hVN⟩ := hR.a rfl
        have HV : Hid (MsI w0 base Q (.slice (some ⟨gv, 0, none⟩) L.length c) dp L P Z A N hB hM V) := hid13 ⟨HU1.out.below hR.lo, hVN, by have := HZs.out.1; rw [World.size_alloc] at hN; omega⟩
        have HVb : Hid (V.heap[wr.heap.size]? = some (.cells #[.int .i64 ba, .int .i64 bt, .slice so bm sc, .slice eo bn ec] 111)) := hid13 ((hR.lo.block _ (lt_16 HW0.out)).trans HW0.out)
        have HNN : Hid (wr.heap.size < N) := by show _ < _; rw [World.size_alloc] at hN; omega
        simp only [putAll, Act.put, List.setIfInBounds_toArray, List.set_cons_zero, List.set_cons_succ]
        clear hR hVN hN HY HA0 HU1 m1 m2 HM12 HW0
        have v1 := HV.out.hc.2
        have b0 := at_16 HVb.out 0 _ rfl
        refine wl_nil16 (P := Try.prog) (ops := #[]) ?_
        by_cases hf : F < hM
        · have HE : Hid (msR F P = (0, ba, 27)) := hid13 (by rw [← HMs.out, if_pos hf])
          clear HMs
          go_wp2
          exact bodyPost_ret (v := .tuple #[.int .i64 ba, .int .i64 27]) (by simp [results, Try.results65, go_sem]) rfl ⟨by rw [HE.out], fun q => (by rw [HE.out] at q; cases q), HV.out.m.p.lo⟩
        have HE : Hid (msG F B' (j + 1) (b.es.foldl (upX hB hM) A) (max dp hB) = msR F P) := hid13 (by rw [← HMs.out, if_neg hf])
        have HhM : Hid (0 ≤ hM ∧ hM ≤ F) := ⟨HHB.out.2, by omega⟩
        have v0 := HV.out.hc.1
        obtain ⟨w1, w2⟩ := HV.out.m.p.c1
        have mx := fun w => max_16 dp hB w
        obtain ⟨D2, hD2⟩ : ∃ D2, D2 = max dp hB := ⟨_, rfl⟩
        rw [← hD2] at mx HE
        clear hD2
        have U1 := HV.out.m.sdp D2
        have bd : Below (V.setCell ⟨Q, 1, none⟩ (.int .i64 D2)).heap.size (V.setCell ⟨Q, 1, none⟩ (.int .i64 D2)) (V.setCell ⟨Q, 1, none⟩ (.int .i64 D2)).drew := (Below.refl _ _).drew
        have HI1 : Hid (MsI w0 base Q (.slice (some ⟨gv, 0, none⟩) L.length c) D2 L P Z A N hB hM (V.setCell ⟨Q, 1, none⟩ (.int .i64 D2)).drew) := hid13 (MsI.below ⟨U1, (far_16 (by have := HNN.out; have := HZs.out.2; omega)).trans HV.out.h, HV.out.n⟩ bd)
        have hqc : ¬ wr.heap.size = Q := by have := HZs.out.2; omega
        have b3 : V.cell? ⟨wr.heap.size, 3, none⟩ = some (.slice eo bn ec) := at_16 HVb.out 3 _ rfl
        clear HMs U1 bd
        go_wp2_with fail
        refine qpw_region 8 (qpOk 8 8 (by decide) (fun N => by kernel_rfl) (by kernel_rfl) (by kernel_rfl) (by kernel_rfl) (by kernel_rfl)) (C := fun X => X = V.drew) [some 49, some 50, some 51, some 52, some 53, some 54, some 55, some 56] [.pointer (some ⟨Q, 0, none⟩), .pointer (some ⟨Q, 0, none⟩), .pointer (some ⟨Q, 0, none⟩), .pointer (some ⟨Q, 1, none⟩), .int .i64 dp, .pointer (some ⟨N, 0, none⟩), .int .i64 hB, .int .i64 D2] (by kernel_rfl) rfl ?walkq8 ?finq8
        case walkq8 =>
          refine qw_run (v := .pointer (some ⟨Q, 0, none⟩)) (by rfl) ?_ ?_
          · (intro w9 hC; subst hC; go_simp; first | done | (simp; done) | (simp [*]; done) | omega | (simp; omega) | (rw [IntKind.wrap_i64]; omega) | (intro hx; omega) | rfl)
          simp only [Act.put, List.setIfInBounds_toArray, List.set_cons_zero, List.set_cons_succ]
          refine qw_run (v := .pointer (some ⟨Q, 0, none⟩)) (by rfl) ?_ ?_
          · (intro w9 hC; subst hC; go_simp; first | done | (simp; done) | (simp [*]; done) | omega | (simp; omega) | (rw [IntKind.wrap_i64]; omega) | (intro hx; omega) | rfl)
          simp only [Act.put, List.setIfInBounds_toArray, List.set_cons_zero, List.set_cons_succ]
          refine qw_run (v := .pointer (some ⟨Q, 0, none⟩)) (by rfl) ?_ ?_
          · (intro w9 hC; subst hC; go_simp; first | done | (simp; done) | (simp [*]; done) | omega | (simp; omega) | (rw [IntKind.wrap_i64]; omega) | (intro hx; omega) | rfl)
          simp only [Act.put, List.setIfInBounds_toArray, List.set_cons_zero, List.set_cons_succ]
          refine qw_run (v := .pointer (some ⟨Q, 1, none⟩)) (by rfl) ?_ ?_
          · (intro w9 hC; subst hC; go_simp; first | done | (simp; done) | (simp [*]; done) | omega | (simp; omega) | (rw [IntKind.wrap_i64]; omega) | (intro hx; omega) | rfl)
          simp only [Act.put, List.setIfInBounds_toArray, List.set_cons_zero, List.set_cons_succ]
          refine qw_run (v := .int .i64 dp) (by rfl) ?_ ?_
          · (intro w9 hC; subst hC; go_simp; first | done | (simp; done) | (simp [*]; done) | omega | (simp; omega) | (rw [IntKind.wrap_i64]; omega) | (intro hx; omega) | rfl)
          simp only [Act.put, List.setIfInBounds_toArray, List.set_cons_zero, List.set_cons_succ]
          refine qw_run (v := .pointer (some ⟨N, 0, none⟩)) (by rfl) ?_ ?_
          · (intro w9 hC; subst hC; go_simp; first | done | (simp; done) | (simp [*]; done) | omega | (simp; omega) | (rw [IntKind.wrap_i64]; omega) | (intro hx; omega) | rfl)
          simp only [Act.put, List.setIfInBounds_toArray, List.set_cons_zero, List.set_cons_succ]
          refine qw_run (v := .int .i64 hB) (by rfl) ?_ ?_
          · (intro w9 hC; subst hC; go_simp; first | done | (simp; done) | (simp [*]; done) | omega | (simp; omega) | (rw [IntKind.wrap_i64]; omega) | (intro hx; omega) | rfl)
          simp only [Act.put, List.setIfInBounds_toArray, List.set_cons_zero, List.set_cons_succ]
          refine qw_run (v := .int .i64 D2) (by rfl) ?_ ?_
          · (intro w9 hC; subst hC; go_simp; first | done | (simp; done) | (simp [*]; done) | omega | (simp; omega) | (rw [IntKind.wrap_i64]; omega) | (intro hx; omega) | rfl)
          simp only [Act.put, List.setIfInBounds_toArray, List.set_cons_zero, List.set_cons_succ]
          refine qw_nil ?_
          simp only [putAll, Act.put, List.setIfInBounds_toArray, List.set_cons_zero, List.set_cons_succ]
        case finq8 =>
          intro w9 hC
          subst hC
          simp only [putAll, Act.put, List.setIfInBounds_toArray, List.set_cons_zero, List.set_cons_succ]
          dsimp only [List.drop]
          have w1' : V.drew.cell? ⟨Q, 1, none⟩ = some (.int .i64 dp) := w1
          have w2' : V.drew.frozen? ⟨Q, 1, none⟩ = false := w2
          have b3' : (V.setCell ⟨Q, 1, none⟩ (.int .i64 D2)).drew.cell? ⟨wr.heap.size, 3, none⟩ = some (.slice eo bn ec) := at_16 ((far_16 hqc).trans HVb.out) 3 _ rfl
          clear mx v0 v1 b0
          go_wp2_with fail
          clear w1 w2 w1' w2' b3 b3' hqc HVb HV
          revert HI1
          generalize (V.setCell ⟨Q, 1, none⟩ (.int .i64 D2)).drew = W1
          intro HI1
          go_loopg [62] bn (fun gk iv wr2 => ∃ (i : Nat) (X Y : List (Bool × Int)), i + gk = bn ∧ iv = .int .i64 (i : Int) ∧ Hid (b.es = X ++ Y ∧ X.length = i ∧ MsI w0 base Q (.slice (some ⟨gv, 0, none⟩) L.length c) D2 L P Z (X.foldl (upX hB hM) A) N hB hM wr2))
          case atStart => exact ⟨0, [], b.es, by omega, rfl, hid13 ⟨rfl, rfl, HI1.out⟩⟩
          case round =>
            clear HI1
            obtain ⟨i, X, Y, hk2, rfl, HI2⟩ := hrel
            by_cases hlt2 : (i : Int) < (bn : Int)
            · obtain ⟨e, Y', hY⟩ : ∃ e Y', Y = e :: Y' := by
                cases hY : Y with
                | nil =>
                  have e1 := HI2.out.1
                  have e2 := HI2.out.2.1
                  have e3 := HBn.out
                  rw [e1, hY, List.append_nil] at e3
                  omega
                | cons e Y' => exact ⟨e, Y', rfl⟩
              subst hY
              obtain ⟨eb, en⟩ := e
              obtain ⟨hes, hXi, hU⟩ := HI2.out
              have hei : b.es[i]? = some (eb, en) := by rw [hes, ← hXi]; simp
              have hbo := (hU.m.p.b.m j x b HX.out.2.1 HX.out.1).2.2.2
              rw [← HBn.out, HX.out.2.2] at hbo
              obtain ⟨eg, ec', hee, -⟩ := own_some18 hbo (by omega)
              injection hee with he1 he2 he3
              subst he1 he3
              obtain ⟨r1, r2⟩ := rowE8_get _ _ _ hei
              have k1 := (own_at18 hbo r1).1
              have k2 := (own_at18 hbo r2).1
              dsimp only at k1 k2
              have q1 := bl1 wr (.cells #[.bool eb, .int .i64 en] 135)
              have hU1 := hU.below q1
              have mi : IntKind.i64.wrap ((i : Int) + 1) = ((i + 1 : Nat) : Int) := by rw [IntKind.wrap_i64]; have := HBb.out; push_cast; omega
              have HK2 : Hid (i + gk = bn ∧ i < bn) := ⟨hk2, by omega⟩
              have HEs : Hid (b.es = (X ++ [(eb, en)]) ++ Y' ∧ (X ++ [(eb, en)]).length = i + 1) := ⟨by rw [hes]; simp, by rw [List.length_append, hXi]; rfl⟩
              have hfo : (X ++ [(eb, en)]).foldl (upX hB hM) A = upX hB hM (X.foldl (upX hB hM) A) (eb, en) := by rw [List.foldl_append]; rfl
              have hsl : (X.foldl (upX hB hM) A).length = n := by rw [upF_len]; exact HIn.out.1
              have hen := HBb.out.2.2 (eb, en) (List.mem_of_getElem? hei)
              cases eb with
              | false =>
                have HU2 : Hid (MsI w0 base Q (.slice (some ⟨gv, 0, none⟩) L.length c) D2 L P Z ((X ++ [(false, en)]).foldl (upX hB hM) A) N hB hM (wr.alloc (.cells #[.bool false, .int .i64 en] 135))) := hid13 (by rw [hfo]; exact hU1)
                clear hes hXi hU hei hbo he2 r1 r2 q1 hk2 HI2 hU1 hfo hsl hen
                go_wp2
                go_roundg (gk - 1)
                case measure => have := HK2.out; omega
                case rel => exact ⟨i + 1, _, _, by have := HK2.out; omega, rfl, hid13 ⟨HEs.out.1, HEs.out.2, HU2.out⟩⟩
              | true =>
                obtain ⟨h5, h6⟩ := hen rfl
                dsimp only at h5 h6
                obtain ⟨k, rfl⟩ : ∃ k : Nat, en = (k : Int) := ⟨en.toNat, by omega⟩
                have hkn : k < n := by have := HN.out; omega
                have hkni : (k : Int) < (n : Int) := by omega
                obtain ⟨S, hS⟩ : ∃ S, S = X.foldl (upX hB hM) A := ⟨_, rfl⟩
                rw [← hS] at hU1 hfo hsl
                obtain ⟨pc, hpc⟩ : ∃ y, y = (S.getD k (0, 0)).1 := ⟨_, rfl⟩
                obtain ⟨pd, hpd⟩ : ∃ y, y = (S.getD k (0, 0)).2 := ⟨_, rfl⟩
                have HFo : Hid ((X ++ [(true, (k : Int))]).foldl (upX hB hM) A = S.set k (max pc hB, max pd hM)) := hid13 (by rw [hfo]; unfold upX; rw [if_pos rfl, Int.toNat_natCast, hpc, hpd])
                have HP : Hid ((S.getD k (0, 0)).1 = pc ∧ (S.getD k (0, 0)).2 = pd ∧ k < S.length) := ⟨hpc.symm, hpd.symm, by omega⟩
                have HR0 : Hid (RS8 (fun X => X.heap[wr.heap.size]? = some (.cells #[.bool true, .int .i64 (k : Int)] 135) ∧ X.heap[N]? = some (.cells #[.int .i64 hB, .int .i64 hM] 167)) (MsI w0 base Q (.slice (some ⟨gv, 0, none⟩) L.length c) D2 L P Z S N hB hM) (MsI w0 base Q (.slice (some ⟨gv, 0, none⟩) L.length c) D2 L P Z (S.set k (max pc hB, max pd hM)) N hB hM) false false (wr.alloc (.cells #[.bool true, .int .i64 (k : Int)] 135)).drew) := by
                  have hd := hU1.below ((Below.refl _ _).drew)
                  exact RS8.start ⟨new_16 wr _, hd.h⟩ hd
                have HNe : Hid (wr.heap.size ≠ Z ∧ N ≠ Z) := ⟨by have := lt_16 hU.m.z; omega, hU.n⟩
                clear hes hXi hU hei hbo he2 r1 r2 q1 hk2 HI2 hU1 hfo hsl hen h5 h6 hkn hS hpc hpd
                go_wp2_with fail
                clear k1 k2
                refine gh_region (γ := Unit) (qpOk 12 12 (by decide) (fun N => by kernel_rfl) (by kernel_rfl) (by kernel_rfl) (by kernel_rfl) (by kernel_rfl)) (by kernel_rfl) (by kernel_rfl) [some 68, some 69, some 70, some 71, some 72, some 73, some 74, some 75, some 76, some 77, some 78, none] (fun g => [.slice (some ⟨Z, 0, none⟩) n n, .pointer (some ⟨wr.heap.size, 1, none⟩), .int .i64 (k : Int), .slice (some ⟨Z, 0, none⟩) n n, .pointer (some ⟨wr.heap.size, 1, none⟩), .int .i64 (k : Int), .pointer (some ⟨Z, k * 2, none⟩), .agg #[.int .i64 pc, .int .i64 pd], .agg #[.int .i64 hB, .int .i64 hM], .agg #[.int .i64 (max pc hB), .int .i64 (max pd hM)], .pointer (some ⟨Z, k * 2, none⟩), undef]) (by kernel_rfl) (by simp) (fun lp g X => RS8 (fun X => X.heap[wr.heap.size]? = some (.cells #[.bool true, .int .i64 (k : Int)] 135) ∧ X.heap[N]? = some (.cells #[.int .i64 hB, .int .i64 hM] 167)) (MsI w0 base Q (.slice (some ⟨gv, 0, none⟩) L.length c) D2 L P Z S N hB hM) (MsI w0 base Q (.slice (some ⟨gv, 0, none⟩) L.length c) D2 L P Z (S.set k (max pc hB, max pd hM)) N hB hM) (lp.getD 7 false) (lp.getD 11 false) X) () HR0.out ?step13 ?fin13
                case step13 =>
                  intro q o lp g w' a' ho hsz hun hdep hR hS K Q' hK
                  have hfl : ∀ j, j ≠ q → (lp.setIfInBounds q true).getD j false = lp.getD j false := fun j hj => by rw [Array.getD_eq_getD_getElem?, Array.getD_eq_getD_getElem?, Array.getElem?_setIfInBounds_ne (by omega)]
                  have hq : q < 12 := (List.getElem?_eq_some_iff.mp ho).1
                  match q, ho, hun, hdep, hK, hfl, hq with
                  | 0, ho, hun, hdep, hK, hfl, _ =>
                    obtain rfl := Option.some.inj ho
                    have o6 : a'.tmps[6]? = some (.slice (some ⟨Z, 0, none⟩) n n) := (hS.old14 6 (by simp)).trans rfl
                    have hK' := hK g w' (fun _ _ _ _ _ _ => rfl) (by rw [hfl 7 (by decide), hfl 11 (by decide)]; exact hR) (.slice (some ⟨Z, 0, none⟩) n n) (by simp only [valO, Option.bind_some]; (try simp only [putAll, Act.put, List.setIfInBounds_toArray, List.set_cons_zero, List.set_cons_succ]); (try rfl))
                    clear hS hdep hR
                    refine gh_quiet14 (v := .slice (some ⟨Z, 0, none⟩) n n) ?_ ?_
                    · (simp only [execOp, Act.eval, o6]; go_simp; first | done | (simp; done) | (simp [*]; done) | omega | (rw [IntKind.wrap_i64]; omega))
                    · exact hK'
                  | 1, ho, hun, hdep, hK, hfl, _ =>
                    obtain rfl := Option.some.inj ho
                    have o11 : a'.tmps[11]? = some (.pointer (some ⟨wr.heap.size, 0, none⟩)) := (hS.old14 11 (by simp)).trans rfl
                    have hK' := hK g w' (fun _ _ _ _ _ _ => rfl) (by rw [hfl 7 (by decide), hfl 11 (by decide)]; exact hR) (.pointer (some ⟨wr.heap.size, 1, none⟩)) (by simp only [valO, Option.bind_some]; (try simp only [putAll, Act.put, List.setIfInBounds_toArray, List.set_cons_zero, List.set_cons_succ]); (try rfl))
                    clear hS hdep hR
                    refine gh_quiet14 (v := .pointer (some ⟨wr.heap.size, 1, none⟩)) ?_ ?_
                    · (simp only [execOp, Act.eval, o11]; go_simp; first | done | (simp; done) | (simp [*]; done) | omega | (rw [IntKind.wrap_i64]; omega))
                    · exact hK'
                  | 2, ho, hun, hdep, hK, hfl, _ =>
                    obtain rfl := Option.some.inj ho
                    have d1 : lp.getD 1 false = true := hdep { on := 1, ground := .data } (by simp) rfl
                    have e69 : a'.tmps[69]? = some (.pointer (some ⟨wr.heap.size, 1, none⟩)) := (hS.don 1 _ 69 rfl d1 rfl).trans (by simp only [putAll, Act.put, List.setIfInBounds_toArray, List.set_cons_zero, List.set_cons_succ]; rfl)
                    have k1 := at_16 hR.r.1 1 _ rfl
                    have hK' := hK g w' (fun _ _ _ _ _ _ => rfl) (by rw [hfl 7 (by decide), hfl 11 (by decide)]; exact hR) (.int .i64 (k : Int)) (by simp only [valO, Option.bind_some]; (try simp only [putAll, Act.put, List.setIfInBounds_toArray, List.set_cons_zero, List.set_cons_succ]); (try rfl))
                    clear hS hdep hR
                    refine gh_quiet14 (v := .int .i64 (k : Int)) ?_ ?_
                    · (simp only [execOp, Act.eval, e69]; go_simp; first | done | (simp; done) | (simp [*]; done) | omega | (rw [IntKind.wrap_i64]; omega))
                    · exact hK'
                  | 3, ho, hun, hdep, hK, hfl, _ =>
                    obtain rfl := Option.some.inj ho
                    have o6 : a'.tmps[6]? = some (.slice (some ⟨Z, 0, none⟩) n n) := (hS.old14 6 (by simp)).trans rfl
                    have hK' := hK g w' (fun _ _ _ _ _ _ => rfl) (by rw [hfl 7 (by decide), hfl 11 (by decide)]; exact hR) (.slice (some ⟨Z, 0, none⟩) n n) (by simp only [valO, Option.bind_some]; (try simp only [putAll, Act.put, List.setIfInBounds_toArray, List.set_cons_zero, List.set_cons_succ]); (try rfl))
                    clear hS hdep hR
                    refine gh_quiet14 (v := .slice (some ⟨Z, 0, none⟩) n n) ?_ ?_
                    · (simp only [execOp, Act.eval, o6]; go_simp; first | done | (simp; done) | (simp [*]; done) | omega | (rw [IntKind.wrap_i64]; omega))
                    · exact hK'
                  | 4, ho, hun, hdep, hK, hfl, _ =>
                    obtain rfl := Option.some.inj ho
                    have o11 : a'.tmps[11]? = some (.pointer (some ⟨wr.heap.size, 0, none⟩)) := (hS.old14 11 (by simp)).trans rfl
                    have hK' := hK g w' (fun _ _ _ _ _ _ => rfl) (by rw [hfl 7 (by decide), hfl 11 (by decide)]; exact hR) (.pointer (some ⟨wr.heap.size, 1, none⟩)) (by simp only [valO, Option.bind_some]; (try simp only [putAll, Act.put, List.setIfInBounds_toArray, List.set_cons_zero, List.set_cons_succ]); (try rfl))
                    clear hS hdep hR
                    refine gh_quiet14 (v := .pointer (some ⟨wr.heap.size, 1, none⟩)) ?_ ?_
                    · (simp only [execOp, Act.eval, o11]; go_simp; first | done | (simp; done) | (simp [*]; done) | omega | (rw [IntKind.wrap_i64]; omega))
                    · exact hK'
                  | 5, ho, hun, hdep, hK, hfl, _ =>
                    obtain rfl := Option.some.inj ho
                    have d4 : lp.getD 4 false = true := hdep { on := 4, ground := .data } (by simp) rfl
                    have e72 : a'.tmps[72]? = some (.pointer (some ⟨wr.heap.size, 1, none⟩)) := (hS.don 4 _ 72 rfl d4 rfl).trans (by simp only [putAll, Act.put, List.setIfInBounds_toArray, List.set_cons_zero, List.set_cons_succ]; rfl)
                    have k1 := at_16 hR.r.1 1 _ rfl
                    have hK' := hK g w' (fun _ _ _ _ _ _ => rfl) (by rw [hfl 7 (by decide), hfl 11 (by decide)]; exact hR) (.int .i64 (k : Int)) (by simp only [valO, Option.bind_some]; (try simp only [putAll, Act.put, List.setIfInBounds_toArray, List.set_cons_zero, List.set_cons_succ]); (try rfl))
                    clear hS hdep hR
                    refine gh_quiet14 (v := .int .i64 (k : Int)) ?_ ?_
                    · (simp only [execOp, Act.eval, e72]; go_simp; first | done | (simp; done) | (simp [*]; done) | omega | (rw [IntKind.wrap_i64]; omega))
                    · exact hK'
                  | 6, ho, hun, hdep, hK, hfl, _ =>
                    obtain rfl := Option.some.inj ho
                    have d3 : lp.getD 3 false = true := hdep { on := 3, ground := .data } (by simp) rfl
                    have e71 : a'.tmps[71]? = some (.slice (some ⟨Z, 0, none⟩) n n) := (hS.don 3 _ 71 rfl d3 rfl).trans (by simp only [putAll, Act.put, List.setIfInBounds_toArray, List.set_cons_zero, List.set_cons_succ]; rfl)
                    have d5 : lp.getD 5 false = true := hdep { on := 5, ground := .data } (by simp) rfl
                    have e73 : a'.tmps[73]? = some (.int .i64 (k : Int)) := (hS.don 5 _ 73 rfl d5 rfl).trans (by simp only [putAll, Act.put, List.setIfInBounds_toArray, List.set_cons_zero, List.set_cons_succ]; rfl)
                    have hK' := hK g w' (fun _ _ _ _ _ _ => rfl) (by rw [hfl 7 (by decide), hfl 11 (by decide)]; exact hR) (.pointer (some ⟨Z, k * 2, none⟩)) (by simp only [valO, Option.bind_some]; (try simp only [putAll, Act.put, List.setIfInBounds_toArray, List.set_cons_zero, List.set_cons_succ]); (try rfl))
                    clear hS hdep hR
                    refine gh_quiet14 (v := .pointer (some ⟨Z, k * 2, none⟩)) ?_ ?_
                    · (simp only [execOp, Act.eval, e71, e73]; go_simp; first | done | (simp; done) | (simp [*]; done) | omega | (rw [IntKind.wrap_i64]; omega))
                    · exact hK'
                  | 7, ho, hun, hdep, hK, hfl, _ =>
                    obtain rfl := Option.some.inj ho
                    have d6 : lp.getD 6 false = true := hdep { on := 6, ground := .data } (by simp) rfl
                    have e74 : a'.tmps[74]? = some (.pointer (some ⟨Z, k * 2, none⟩)) := (hS.don 6 _ 74 rfl d6 rfl).trans (by simp only [putAll, Act.put, List.setIfInBounds_toArray, List.set_cons_zero, List.set_cons_succ]; rfl)
                    obtain ⟨k1, k2⟩ := (hR.un hun).m.cell HP.out.2.2
                    rw [HP.out.1] at k1
                    rw [HP.out.2.1] at k2
                    have hK' := hK g w' (fun _ _ _ _ _ _ => rfl) (by rw [hfl 11 (by decide), getD_set_same (by rw [hsz]; decide)]; exact hR.ld) (.agg #[.int .i64 pc, .int .i64 pd]) (by simp only [valO, Option.bind_some]; (try simp only [putAll, Act.put, List.setIfInBounds_toArray, List.set_cons_zero, List.set_cons_succ]); (try rfl))
                    clear hS hdep hR
                    refine gh_quiet14 (v := .agg #[.int .i64 pc, .int .i64 pd]) ?_ ?_
                    · (simp only [execOp, Act.eval, e74]; go_simp; first | done | (simp; done) | (simp [*]; done) | omega | (rw [IntKind.wrap_i64]; omega))
                    · exact hK'
                  | 8, ho, hun, hdep, hK, hfl, _ =>
                    obtain rfl := Option.some.inj ho
                    have o9 : a'.tmps[9]? = some (.pointer (some ⟨N, 0, none⟩)) := (hS.old14 9 (by simp)).trans rfl
                    have k1 := at_16 hR.r.2 0 _ rfl
                    have k2 := at_16 hR.r.2 1 _ rfl
                    have hK' := hK g w' (fun _ _ _ _ _ _ => rfl) (by rw [hfl 7 (by decide), hfl 11 (by decide)]; exact hR) (.agg #[.int .i64 hB, .int .i64 hM]) (by simp only [valO, Option.bind_some]; (try simp only [putAll, Act.put, List.setIfInBounds_toArray, List.set_cons_zero, List.set_cons_succ]); (try rfl))
                    clear hS hdep hR
                    refine gh_quiet14 (v := .agg #[.int .i64 hB, .int .i64 hM]) ?_ ?_
                    · (simp only [execOp, Act.eval, o9]; go_simp; first | done | (simp; done) | (simp [*]; done) | omega | (rw [IntKind.wrap_i64]; omega))
                    · exact hK'
                  | 9, ho, hun, hdep, hK, hfl, _ =>
                    obtain rfl := Option.some.inj ho
                    have d7 : lp.getD 7 false = true := hdep { on := 7, ground := .data } (by simp) rfl
                    have e75 : a'.tmps[75]? = some (.agg #[.int .i64 pc, .int .i64 pd]) := (hS.don 7 _ 75 rfl d7 rfl).trans (by simp only [putAll, Act.put, List.setIfInBounds_toArray, List.set_cons_zero, List.set_cons_succ]; rfl)
                    have d8 : lp.getD 8 false = true := hdep { on := 8, ground := .data } (by simp) rfl
                    have e76 : a'.tmps[76]? = some (.agg #[.int .i64 hB, .int .i64 hM]) := (hS.don 8 _ 76 rfl d8 rfl).trans (by simp only [putAll, Act.put, List.setIfInBounds_toArray, List.set_cons_zero, List.set_cons_succ]; rfl)
                    have KC := most18 pc pd hB hM w'
                    clear hdep
                    unfold Oper.wp
                    simp only [execOp, Act.eval, Array.getD_eq_getD_getElem?]
                    simp [go_sem, e75, e76, Oper.upon]
                    refine KC.mono ?_
                    rintro e W2 ⟨rfl, hb⟩
                    exact hK g W2 (fun _ _ _ _ _ _ => rfl) (by rw [hfl 7 (by decide), hfl 11 (by decide)]; exact hR.mv (fun h => ⟨(hb.block _ (lt_16 h.1)).trans h.1, (hb.block _ (lt_16 h.2)).trans h.2⟩) (fun h => h.below hb) (fun h => h.below hb)) _ (by simp only [valO, Option.bind_some]; simp only [putAll, Act.put, List.setIfInBounds_toArray, List.set_cons_zero, List.set_cons_succ]; rfl)
                  | 10, ho, hun, hdep, hK, hfl, _ =>
                    obtain rfl := Option.some.inj ho
                    have d0 : lp.getD 0 false = true := hdep { on := 0, ground := .data } (by simp) rfl
                    have e68 : a'.tmps[68]? = some (.slice (some ⟨Z, 0, none⟩) n n) := (hS.don 0 _ 68 rfl d0 rfl).trans (by simp only [putAll, Act.put, List.setIfInBounds_toArray, List.set_cons_zero, List.set_cons_succ]; rfl)
                    have d2 : lp.getD 2 false = true := hdep { on := 2, ground := .data } (by simp) rfl
                    have e70 : a'.tmps[70]? = some (.int .i64 (k : Int)) := (hS.don 2 _ 70 rfl d2 rfl).trans (by simp only [putAll, Act.put, List.setIfInBounds_toArray, List.set_cons_zero, List.set_cons_succ]; rfl)
                    have hK' := hK g w' (fun _ _ _ _ _ _ => rfl) (by rw [hfl 7 (by decide), hfl 11 (by decide)]; exact hR) (.pointer (some ⟨Z, k * 2, none⟩)) (by simp only [valO, Option.bind_some]; (try simp only [putAll, Act.put, List.setIfInBounds_toArray, List.set_cons_zero, List.set_cons_succ]); (try rfl))
                    clear hS hdep hR
                    refine gh_quiet14 (v := .pointer (some ⟨Z, k * 2, none⟩)) ?_ ?_
                    · (simp only [execOp, Act.eval, e68, e70]; go_simp; first | done | (simp; done) | (simp [*]; done) | omega | (rw [IntKind.wrap_i64]; omega))
                    · exact hK'
                  | 11, ho, hun, hdep, hK, hfl, _ =>
                    obtain rfl := Option.some.inj ho
                    have d9 : lp.getD 9 false = true := hdep { on := 9, ground := .data } (by simp) rfl
                    have e77 : a'.tmps[77]? = some (.agg #[.int .i64 (max pc hB), .int .i64 (max pd hM)]) := (hS.don 9 _ 77 rfl d9 rfl).trans (by simp only [putAll, Act.put, List.setIfInBounds_toArray, List.set_cons_zero, List.set_cons_succ]; rfl)
                    have d10 : lp.getD 10 false = true := hdep { on := 10, ground := .data } (by simp) rfl
                    have e78 : a'.tmps[78]? = some (.pointer (some ⟨Z, k * 2, none⟩)) := (hS.don 10 _ 78 rfl d10 rfl).trans (by simp only [putAll, Act.put, List.setIfInBounds_toArray, List.set_cons_zero, List.set_cons_succ]; rfl)
                    have d7 : lp.getD 7 false = true := hdep { on := 7, ground := .phase } (by simp) rfl
                    have hA := hR.a hun
                    obtain ⟨z0, z1⟩ := hA.m.cell HP.out.2.2
                    have k0 := fr_16 (j := k * 2) hA.m.z
                    have k1 := fr_16 (j := k * 2 + 1) hA.m.z
                    have hK' := hK g _ (fun _ _ _ _ _ _ => rfl) (by rw [hfl 7 (by decide), getD_set_same (by rw [hsz]; decide)]; exact RS8.fin d7 ⟨(far_16 HNe.out.1).trans ((far_16 HNe.out.1).trans hR.r.1), (far_16 HNe.out.2).trans ((far_16 HNe.out.2).trans hR.r.2)⟩ (hA.set k HP.out.2.2 (max pc hB) (max pd hM))) undef rfl
                    clear hS hdep hR hA
                    generalize max pc hB = mA at *
                    generalize max pd hM = mB at *
                    unfold Oper.wp
                    simp [execOp, Act.eval, e77, e78, go_sem, z0, z1, k0, k1, Oper.upon]
                    exact hK'
                  | n + 12, ho, hun, hdep, hK, hfl, hq => exact absurd hq (by omega)
                case fin13 =>
                  intro g9 V2 hR
                  have HU2 : Hid (MsI w0 base Q (.slice (some ⟨gv, 0, none⟩) L.length c) D2 L P Z ((X ++ [(true, (k : Int))]).foldl (upX hB hM) A) N hB hM V2) := hid13 (by rw [HFo.out]; exact hR.e (by simp))
                  simp only [putAll, Act.put, List.setIfInBounds_toArray, List.set_cons_zero, List.set_cons_succ]
                  clear hR HR0 HFo HP HNe
                  refine wl_nil16 (P := Try.prog) (ops := #[]) ?_
                  go_wp2
                  go_roundg (gk - 1)
                  case measure => have := HK2.out; omega
                  case rel => exact ⟨i + 1, _, _, by have := HK2.out; omega, rfl, hid13 ⟨HEs.out.1, HEs.out.2, HU2.out⟩⟩
            · have HFin : Hid (InW n ((j + 1 : Nat) : Int) F (b.es.foldl (upX hB hM) A) ∧ MsM w0 base Q (.slice (some ⟨gv, 0, none⟩) L.length c) D2 L P Z (b.es.foldl (upX hB hM) A) wr) := hid13 (by
                obtain ⟨hes, hXi, hU⟩ := HI2.out
                have hYn : Y = [] := by
                  have e3 := HBn.out
                  rw [hes, List.length_append] at e3
                  exact List.eq_nil_of_length_eq_zero (by omega)
                rw [hYn, List.append_nil] at hes
                refine ⟨InW.ups (by have := HHB.out.1; push_cast; omega) HhM.out _ (HIn.out.more (by push_cast; omega)), ?_⟩
                have := hU.m
                rw [← hes] at this
                exact this)
              clear HI2 hk2
              go_wp2
              go_roundg (GK - 1)
              case measure => have := HJ.out; omega
              case rel => exact ⟨j + 1, A0 ++ [b], B', D2, _, by have := HJ.out; omega, rfl, hid13 ⟨HPA.out.1, HPA.out.2, HE.out, HFin.out.1, HFin.out.2⟩⟩
    · have HFin : Hid (msR F P = (dp, 0, 0) ∧ PgV w0 wr base Q (.slice (some ⟨gv, 0, none⟩) L.length c) dp 0 L P) := hid13 (by
        obtain ⟨hPA, hjA, hms, hIn, hU⟩ := HI.out
        have hBn : B = [] := by
          have e2 : P.length = A0.length + B.length := by rw [hPA, List.length_append]
          have := HN.out
          exact List.eq_nil_of_length_eq_zero (by omega)
        rw [hBn] at hms
        exact ⟨hms.symm, hU.p⟩)
      clear HI hk
      go_wp2
      exact bodyPost_ret (v := .tuple #[.int .i64 0, .int .i64 0]) (by simp [results, Try.results65, go_sem]) rfl ⟨by rw [HFin.out.1], fun _ => by rw [HFin.out.1]; exact HFin.out.2, HFin.out.2.lo⟩
end Go.Proofs.Ytdpmhpmnkollaaa
