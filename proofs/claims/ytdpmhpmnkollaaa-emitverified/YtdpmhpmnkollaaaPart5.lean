/-
  Part 5 of the proof: 3 texts, one behind the other.
-/
import Derived.Test.YtdpmhpmnkollaaaPart1
import Derived.Laws.MakeOwn
import Derived.Laws.OwnMore
import Derived.RangeFuncNested
import Derived.Test.YtdpmhpmnkollaaaPart4
namespace Go.Proofs.Ytdpmhpmnkollaaa
open Go.RowKit
set_option linter.unusedSimpArgs false
set_option linter.unusedVariables false

theorem run_make_mid {P : Program} (w : World) (base : Nat) (t e : TypeId) (i : TypeInfo) (z : Value) (ht : P.underlying t = some (.slice e)) (hi : P.info? e = some i) (hz : i.zero = some z) (hsize : i.size = 1) (hz1 : z.cells = #[z])
    (kl kc : IntKind) (n c : Nat) (hnc : n ≤ c) (hbytes : i.bytes * c ≤ 281474976710656) (h63 : c ≤ maxLen) (hbase : base ≤ w.heap.size) :
    ∃ w', (Instr.makeSlice t (.int kl (n : Int)) (.int kc (c : Int))).run P w = .ok (.slice (some ⟨w.heap.size, 0, none⟩) n c) w' ∧
      w'.ownsRow base e 1 (.slice (some ⟨w.heap.size, 0, none⟩) n c) n (List.replicate n z) ∧ w.grownBy w' none := by
  have h63' : (c : Int) ≤ 9223372036854775807 := by
    have h := h63
    simp [maxLen] at h
    omega
  have hb' : (i.bytes : Int) * (c : Int) ≤ 281474976710656 := by
    have h : ((i.bytes * c : Nat) : Int) ≤ 281474976710656 := by omega
    rwa [Int.natCast_mul] at h
  have hr := run_make (P := P) w t e i z ht hi hz kl kc n c (by omega) (by omega) hb' h63'
  simp only [Int.toNat_natCast, hsize, hz1] at hr
  refine ⟨_, hr, ⟨by simp, .inr ⟨w.heap.size, c, _, rfl, hbase, World.alloc_heap_new w _, hnc, h63, ?_, ?_⟩⟩, World.grownBy_alloc w _ none⟩
  · exact size_madeCells _ _
  · rw [toList_madeCells_one, Nat.mul_one, List.take_replicate, Nat.mul_one, Nat.min_eq_left hnc]
theorem wpList_make_mid {P : Program} (w : World) {ops : Array Oper} {rest : List Oper} {o : Oper} {a : Act} {Q : Exit → Act → World → Prop}
    (hg : o.guard = none) (l c : Operand) (t : TypeId) (hop : o.op = Op.makeSlice t l c)
    (base : Nat) (e : TypeId) (i : TypeInfo) (z : Value) (h1 : P.underlying t = some (.slice e)) (h2 : P.info? e = some i) (h3 : i.zero = some z) (h4 : i.size = 1) (h5 : z.cells = #[z])
    (kl kc : IntKind) (L C : Int) (n m : Nat) (hl : a.eval l = .int kl L) (hc : a.eval c = .int kc C) (hL : L = (n : Int)) (hC : C = (m : Int)) (hnm : n ≤ m) (b2 : i.bytes * m ≤ 281474976710656) (b3 : m ≤ maxLen) (b4 : base ≤ w.heap.size)
    (hK : ∀ w', w'.ownsRow base e 1 (.slice (some ⟨w.heap.size, 0, none⟩) n m) n (List.replicate n z) → w.grownBy w' none → wpList P ops Q rest (a.put o.dst (.slice (some ⟨w.heap.size, 0, none⟩) n m)) w') :
    wpList P ops Q (o :: rest) a w := by
  refine wpList_plain hg fun K hK' => ?_
  obtain ⟨w', hrun, r1, r2⟩ := run_make_mid (P := P) w base t e i z h1 h2 h3 h4 h5 kl kc n m hnm b2 b3 b4
  subst hL
  subst hC
  unfold Oper.wp
  simp [execOp, hop, hl, hc, hrun, Result.andThen]
  exact hK' _ _ (hK w' r1 r2)
end Go.Proofs.Ytdpmhpmnkollaaa
namespace Go.Proofs.Ytdpmhpmnkollaaa
open Go.RowKit Go.Shelf
set_option linter.unusedSimpArgs false
set_option linter.unusedVariables false

theorem gh_quiet14 {P : Program} {o : Oper} {a' : Act} {w' : World} {K : Act → World → Prop} {Q' : Exit → Act → World → Prop} {v : Value} (hr : (execOp a'.eval o).run P w' = .ok (.value v) w') (hK : K (a'.put o.dst v) w') : o.wp P a' w' K Q' := by
  unfold Oper.wp Oper.upon
  rw [hr]
  exact hK
theorem gh_same14 {x y : Array Value} {d s : Nat} (h : x.toList.eraseIdx d = y.toList.eraseIdx d) (hs : s ≠ d) : x[s]? = y[s]? := by
  have := erase_get _ _ d s h hs
  simpa using this
theorem Slt.old14 {l : List Oper} {a A : Act} {lp : Array Bool} {a' : Act} (h : Slt l a A lp a') (s : Nat) (hs : ∀ o ∈ l, o.dst ≠ some s) : a'.tmps[s]? = a.tmps[s]? := h.oth s (fun k o hk _ => hs o (List.mem_of_getElem? hk))
structure EnW (w : World) (N G B : Nat) (W : World) (vc vb : Value) (R : List Nat) : Prop where
  b : Below w.heap.size w W
  c : W.cell? ⟨B, 0, none⟩ = some vc
  f : W.frozen? ⟨B, 0, none⟩ = false
  o : W.ownsRow w.heap.size 5 1 vb R.length (R.map cB)
  n : ∀ z, vb.ownBlock = some z → z = G ∨ N ≤ z
  s : N ≤ W.heap.size
section
variable {w W W' : World} {N G B : Nat} {vc vb vb' : Value} {R : List Nat}
theorem EnW.below (h : EnW w N G B W vc vb R) (hb : Below W.heap.size W W') : EnW w N G B W' vc vb R :=
  ⟨keepb hb h.b, keepc hb h.c, keepf hb h.c h.f, own_b13 hb h.o, h.n, Nat.le_trans h.s hb.size⟩
theorem own_cells14 {W : World} {base e size n : Nat} {v : Value} {xs : List Value} (h : W.ownsRow base e size v n xs) {z : Nat} (hz : v.ownBlock = some z) : ∃ cs T fr, W.heap[z]? = some (.cells cs T fr) := by
  rcases h.2 with ⟨rfl, -⟩ | ⟨g, cap, cur, rfl, h1, h2, -⟩
  · cases hz
  · simp only [Value.ownBlock, Option.some.injEq] at hz
    subst hz
    exact ⟨_, _, _, h2⟩
theorem EnW.kept (h : EnW w N G B W vc vb R) {row : Option Nat} (hg : W.grownBy W' row) (hN : w.heap.size ≤ N) (hr : ∀ r, row = some r → N ≤ r ∧ ∃ o : Obj, W.heap[r]? = some o ∧ o.isCells = false) : EnW w N G B W' vc vb R := by
  have hr' : ∀ r, row = some r → ∃ o : Obj, W.heap[r]? = some o ∧ o.isCells = false := fun r e => (hr r e).2
  have hB : row ≠ some B := by
    intro e
    obtain ⟨o, h1, h2⟩ := hr' B e
    have := h.c
    rw [World.cell?, h1] at this
    cases o with
    | cells cs T fr => cases h2
    | _ => simp at this
  have eB : W'.heap[B]? = W.heap[B]? := hg.block B (cell_in h.c) (fun e => hB e.symm)
  refine ⟨h.b.grown hg (Nat.le_trans hN h.s) (fun k e => by have := (hr k e).1; omega), (World.cell?_of_block (a := ⟨B, 0, none⟩) eB).trans h.c, (World.frozen?_of_block (a := ⟨B, 0, none⟩) eB).trans h.f, h.o.kept hg ?_, h.n, Nat.le_trans h.s hg.size⟩
  cases hv : vb.ownBlock with
  | none => exact .inl rfl
  | some z =>
    refine .inr fun e => ?_
    obtain ⟨o, h1, h2⟩ := hr' z e.symm
    obtain ⟨cs, T, fr, h3⟩ := own_cells14 h.o hv
    rw [h3] at h1
    cases h1
    cases h2
theorem EnW.app (h : EnW w N G B W vb vb R) (hBG : B ≠ G) (hBN : B < N) (hwB : w.heap.size ≤ N) {v' : Value} {X : List Nat} (ho : W'.ownsRow w.heap.size 5 1 v' (R ++ X).length ((R ++ X).map cB)) (hg : W.grownBy W' vb.ownBlock) (hat : ∀ z, v'.ownBlock = some z → vb.ownBlock = some z ∨ z = W.heap.size) : EnW w N G B W' vb v' (R ++ X) := by
  have hne : vb.ownBlock ≠ some B := by
    intro e
    rcases h.n B e with h1 | h1
    · exact hBG h1
    · omega
  have eB : W'.heap[B]? = W.heap[B]? := hg.block B (cell_in h.c) (fun e => hne e.symm)
  refine ⟨h.b.grown hg (Nat.le_trans hwB h.s) (fun k e => (h.o.lt k e).1), (World.cell?_of_block (a := ⟨B, 0, none⟩) eB).trans h.c, (World.frozen?_of_block (a := ⟨B, 0, none⟩) eB).trans h.f, ho, ?_, Nat.le_trans h.s hg.size⟩
  intro z hz
  rcases hat z hz with h1 | h1
  · exact h.n z h1
  · exact .inr (by rw [h1]; exact h.s)
theorem EnW.set (h : EnW w N G B W vc vb R) (hBG : B ≠ G) (hBN : B < N) (hwB : w.heap.size ≤ B) : EnW w N G B (W.setCell ⟨B, 0, none⟩ vb) vb vb R := by
  have hne : vb.ownBlock ≠ some B := by
    intro e
    rcases h.n B e with h1 | h1
    · exact hBG h1
    · omega
  have hc := h.c
  have hf := h.f
  refine ⟨h.b.setCell (p := ⟨B, 0, none⟩) hwB _, by simp [go_sem, hc], by simp [go_sem, hf], ?_, h.n, by simp [World.setCell]; exact h.s⟩
  refine ⟨h.o.1, ?_⟩
  rcases h.o.2 with h1 | ⟨g, cap, cur, e, h1, h2, h3⟩
  · exact .inl h1
  · refine .inr ⟨g, cap, cur, e, h1, ?_, h3⟩
    have hgB : ¬ g = B := by
      rintro rfl
      exact hne (by rw [e]; rfl)
    exact (Below.heap_setCell W ⟨B, 0, none⟩ vb g hgB).trans h2
theorem kz_app {Z : Nat → Prop} (h : EnW w N G B W vc vb R) (hZ : ∀ z, Z z → z < w.heap.size ∨ (z ≠ G ∧ z < N)) (hg : W.grownBy W' vb.ownBlock) : KZ Z W W' := ⟨hg.size, fun z o hz hq => by
  refine (hg.block z (Array.getElem?_eq_some_iff.1 hz).1 (fun e => ?_)).trans hz
  have h1 := (h.o.lt z e.symm).1
  rcases hZ z hq with q | q
  · omega
  · rcases h.n z e.symm with q2 | q2
    · exact q.1 q2
    · omega⟩
theorem kz_set {Z : Nat → Prop} (hZ : ¬ Z B) (v : Value) : KZ Z W (W.setCell ⟨B, 0, none⟩ v) := ⟨by simp [World.setCell], fun z o hz hq => (Below.heap_setCell W ⟨B, 0, none⟩ v z (by rintro rfl; exact hZ hq)).trans hz⟩
theorem kf_app (h : EnW w N G B W vc vb R) (hg : W.grownBy W' vb.ownBlock) : KeepsFrom N W W' := ⟨hg.size, fun k o _ hk ho => by
  refine (hg.block k (Array.getElem?_eq_some_iff.1 hk).1 (fun e => ?_)).trans hk
  obtain ⟨cs, T, fr, h3⟩ := own_cells14 h.o e.symm
  rw [h3] at hk
  cases hk
  cases ho⟩
theorem kf_below {n : Nat} (h : Below W.heap.size W W') : KeepsFrom n W W' := ⟨h.size, fun k o _ hk _ => by rw [h.block k (Array.getElem?_eq_some_iff.mp hk).1]; exact hk⟩
theorem kf_set {n : Nat} (h : W.cell? ⟨B, 0, none⟩ = some vc) (v : Value) : KeepsFrom n W (W.setCell ⟨B, 0, none⟩ v) := ⟨by simp [World.setCell], fun k o _ hk ho => by
  refine (Below.heap_setCell W ⟨B, 0, none⟩ v k ?_).trans hk
  rintro rfl
  rw [World.cell?, hk] at h
  cases o with
  | cells cs T fr => cases ho
  | _ => simp at h⟩
end
theorem rangeXA {P : Program} {α : Type} {g : Operand} {ps : Array Tmp} {assign body : Code} {Q : Exit → Act → World → Prop} {a : Act} {w : World} (n : Nat) (h1 : 1 ≤ n) {gf : Nat} {lb : Array Value} (hg : a.eval g = .func (.func gf) #[] lb) (eg : ∀ args w, (callFunc gf args).run P w = .ok (.enter gf args) w)
    {encs : α → Array Value} {Kp : World → World → Prop} {S Sp : List α → Prop} {Bd : Nat} {w0 : World} (hseq : SeqX (n - 1) P gf lb encs Kp S Sp Bd w0) (hBd : Bd ≤ w.heap.size + 2)
    (hKr : ∀ A : World, Kp A A) (hKt : ∀ {A B C : World}, Kp A B → Kp B C → Kp A C) (hKb : ∀ (W : World) (o o' : Obj), W.heap[w.heap.size + 1]? = some o → o.isCells = false → Kp W (W.putObj (w.heap.size + 1) o')) (hb0 : Below w0.heap.size w0 w) (hps : ∀ x, (encs x).size = ps.size)
    (I : List α → World → Prop) (Ix : Code → List α → World → Prop) (hI : OwnFrom w.heap.size I) (hIx : ∀ c, OwnFrom w.heap.size (Ix c)) (h0 : I [] w) (AX : α → Act)
    (hassign : ∀ (l : Nat) (x : α) (W : World) (K : Act → World → Prop), K (AX x) W →
      assign.wpIn (Fence.wide.inRound l) (n - 1 - 1) P (Exit.then K (fun _ _ _ => False)) { tmps := (ps.zip (encs x)).foldl (fun t (p, v) => t.setIfInBounds p v) a.tmps, defers := [] } W)
    (hbody : ∀ (l : Nat) (pre : List α) (x : α) (W : World), w.heap.size ≤ l → (∃ r, W.heap[l]? = some (.loop r)) → I pre W → Sp (pre ++ [x]) → body.wpIn (Fence.wide.inRound l) (n - 1 - 1) P (postX w.heap.size Kp I Ix (pre ++ [x]) W) (AX x) W)
    (hdone : ∀ (D : Nat) (xs : List α) (W : World), w.heap.size ≤ D → S xs → I xs W → W.heap[D]? = some (.deferred (some [])) → Q .normal { a with defers := { target := .collected D, args := #[] } :: a.defers } W)
    (hstop : ∀ (D : Nat) (c : Code) (pre : List α) (W : World), w.heap.size ≤ D → Sp pre → Ix c pre W → W.heap[D]? = some (.deferred (some [])) → c.wpIn Fence.wide n P Q { a with defers := { target := .collected D, args := #[] } :: a.defers } W) :
    (Code.rangeFunc g ps assign body).wpIn Fence.wide n P Q a w :=
  rangeX n h1 hg eg hseq hBd hKt hKb hb0 hps I Ix hI hIx h0 (fun y a' _ => a' = AX y) (fun y a' s A B row hs hg hr => hs)
    (fun l pre x W K hi hK => hassign l x W K (hK (AX x) W (KeepsFrom.refl _ _) (hKr W) hi rfl))
    (fun l pre x a' W h1 h2 h3 h4 h5 => by rw [h4]; exact hbody l pre x W h1 h2 h3 h5) hdone hstop
theorem wl_nil14 {P : Program} {ops : Array Oper} {Q : Exit → Act → World → Prop} {a : Act} {w : World} (h : wpList P ops Q [] a w) : Q .normal a w := h
theorem KZ.refl (Z : Nat → Prop) (W : World) : KZ Z W W := ⟨Nat.le_refl _, fun _ _ h _ => h⟩
structure RE (E : World → Prop) (E1 : Nat → World → Prop) (E2 E3 : Nat → Nat → World → Prop) (f0 f2 f3 f4 : Bool) (g : (Nat × Nat) × (Nat × Nat)) (V : World) : Prop where
  e : f3 = false → E V ∧ (f2 = true → E1 g.1.1 V)
  a : f3 = true → f4 = false → E2 g.2.1 g.2.2 V
  s : f4 = true → E3 g.2.1 g.2.2 V
  d3 : f3 = true → f0 = true ∧ f2 = true
  d4 : f4 = true → f3 = true
end Go.Proofs.Ytdpmhpmnkollaaa
namespace Go.Proofs.Ytdpmhpmnkollaaa
open Go.RowKit Go.Shelf
set_option linter.unusedSimpArgs false
set_option linter.unusedVariables false
attribute [local go_sem] Oper.semAt_some

def wdB (o k : Nat) (m : List (BitVec 32)) : List Nat := (fstW o k :: m).flatMap fun x => by4 x.toNat
theorem fm_len : ∀ (m : List (BitVec 32)), (m.flatMap fun x => by4 x.toNat).length = 4 * m.length
  | [] => rfl
  | x :: m => by rw [List.flatMap_cons, List.length_append, fm_len m, List.length_cons]; show 4 + _ = _; omega
theorem wdB_len (o k : Nat) (m : List (BitVec 32)) : (wdB o k m).length = 4 * (1 + m.length) := by
  unfold wdB; rw [fm_len, List.length_cons]; omega
theorem chk_zero {o n : Int} {m : List (BitVec 32)} (h : chkE o n m = 0) : (1 ≤ o ∧ o ≤ 4) ∧ (0 ≤ n ∧ n ≤ 16777215) ∧ m.length ≤ 524288 := by
  unfold chkE at h
  by_cases h1 : isOp o = true
  · rw [if_pos h1] at h
    by_cases h2 : (decide (kLo o ≤ n) && decide (n ≤ kHi o)) = true
    · rw [if_pos h2] at h
      simp only [Bool.and_eq_true, decide_eq_true_eq] at h2
      have ho : 1 ≤ o ∧ o ≤ 4 := by unfold isOp at h1; simpa using h1
      have hn0 : 0 ≤ n := by have := h2.1; unfold kLo at this; split at this <;> omega
      have hn1 : n ≤ 16777215 := by have := h2.2; unfold kHi at this; split at this; omega; split at this <;> omega
      refine ⟨ho, ⟨hn0, hn1⟩, ?_⟩
      by_cases h3 : o = 2
      · rw [if_pos h3] at h
        have hk : n ≤ 24 := by have := h2.2; rw [h3] at this; exact this
        by_cases h4 : isMapB m n.toNat = true
        · unfold isMapB at h4
          simp only [Bool.and_eq_true, decide_eq_true_eq] at h4
          rw [h4.1]
          exact mwN_hi _ (by omega)
        · rw [if_neg h4] at h; omega
      · rw [if_neg h3] at h
        by_cases h4 : m = []
        · rw [h4]; simp
        · rw [if_neg h4] at h; omega
    · rw [if_neg h2] at h; omega
  · rw [if_neg h1] at h; omega
theorem AtI.grown {W W' : World} {B : Nat} {o n : Int} {v : Value} {row : Option Nat} (h : AtI W B o n v) (hg : W.grownBy W' row) (hne : some B ≠ row) : AtI W' B o n v := ⟨hg.cell h.1 hne, hg.cell h.2.1 hne, hg.cell h.2.2 hne⟩
def enL (l : List Nat) (o n : Int) (m : List (BitVec 32)) : List Nat := if chkE o n m = 0 then l ++ wdB o.toNat n.toNat m else []
set_option maxRecDepth 100000 in
set_option maxHeartbeats 16000000 in
theorem encode_any (v : Value) (l : List Nat) (o n : Int) (vm : Value) (m : List (BitVec 32)) (w : World) (hA : RowA w 1 v l.length (l.map cB)) (hm : RwX cU w vm m) (hl : l.length ≤ 140737480000000) (hml : m.length ≤ 140737488355328) :
    Calls Try.prog 75 #[v, .agg #[.int .i64 o, .int .i64 n, vm]] w fun e w' => ∃ v', e = .returned (.tuple #[v', .int .i64 (chkE o n m)]) ∧ w'.ownsRow w.heap.size 5 1 v' (enL l o n m).length ((enL l o n m).map cB) ∧ Below w.heap.size w w' := by
  obtain ⟨i0, hi, hz0, hz1, hz2⟩ := info13 Try.infoB13
  obtain ⟨-, bo, bc, hvf, -⟩ := id hA
  obtain ⟨ao, c, hvm, -⟩ := id hm
  have q1 := bl1 w (.cells #[.int .i64 o, .int .i64 n, vm] 67)
  have a1 := ati_new w o n vm 67
  have K1 := check_any o n vm m _ (hm.below q1)
  have HB1 := hid13 q1
  have HA1 := hid13 a1
  have HR := hid13 hA
  have HM := hid13 hm
  subst hvf hvm
  clear q1 a1 hA hm
  refine (callsIn_wide (n := 9)).1 ?_
  refine callsIn_of_wp_marks Try.func75 rfl trivial ?_ rfl
  simp only [Try.ntmps75, List.size_toArray, List.length_cons, List.length_nil, Nat.reduceAdd, Nat.reduceSub, Array.replicate_succ, Array.replicate_zero, List.push_toArray, List.append_toArray, List.nil_append, List.cons_append]
  refine wpIn_wide.2 ?_
  go_wp2_with fail
  refine K1.mono ?_
  rintro e w2 ⟨rfl, hb2⟩
  have HB2 := hid13 (keepb hb2 HB1.out)
  have HA2 := hid13 (HA1.out.below hb2)
  clear HA1 HB1 K1 hb2
  by_cases h0 : chkE o n m = 0
  · have HE : Hid (enL l o n m = l ++ wdB o.toNat n.toNat m ∧ chkE o n m = 0) := ⟨by unfold enL; rw [if_pos h0], h0⟩
    have HF := hid13 (chk_zero h0)
    have K2 := size_any o n (.slice ao m.length c) m w2 (HM.out.below HB2.out) hml
    have e2 : szI o n m = 1 + (m.length : Int) := by unfold szI; rw [if_pos h0]
    rw [e2] at K2
    rw [h0]
    obtain ⟨b0, b1, b2⟩ := HA2.out
    have hl0 : (l.length : Int) ≤ 140737480000000 := by omega
    have hm0 : (m.length : Int) ≤ 524288 := by have := HF.out.2.2; omega
    have w1' : IntKind.i64.wrap ((1 + (m.length : Int)) * 4) = (1 + (m.length : Int)) * 4 := by rw [IntKind.wrap_i64]; omega
    have w2' : IntKind.i64.wrap ((l.length : Int) + (1 + (m.length : Int)) * 4) = (l.length : Int) + (1 + (m.length : Int)) * 4 := by rw [IntKind.wrap_i64]; omega
    clear h0 e2 hml
    go_wp2_with fail
    refine K2.mono ?_
    rintro e w3 ⟨rfl, hb3⟩
    have HB3 := hid13 (keepb hb3 HB2.out)
    have HA3 := hid13 (HA2.out.below hb3)
    clear b0 b1 b2 K2 hb3 HA2 HB2
    go_wp2_with (at_make; apply stopHere9)
    refine (show wpList _ _ _ _ _ _ from ?_)
    refine wpList_make_mid _ rfl _ _ 27 rfl w.heap.size 5 i0 (.int .u8 0) Try.underlying27 hi hz0 hz1 rfl .i64 .i64 _ _ l.length (l.length + (1 + m.length) * 4) rfl rfl rfl (by push_cast; rfl) (by omega) (by rw [hz2]; omega) (by unfold maxLen; omega) HB3.out.size ?_
    intro w4 hown4 hgrow4
    obtain ⟨G, hG⟩ : ∃ G, G = w3.heap.size := ⟨_, rfl⟩
    rw [← hG] at hown4 ⊢
    have HB4 : Hid (Below w.heap.size w w4) := HB3.out.grown hgrow4 HB3.out.size (fun z hz => by cases hz)
    have hA4 : AtI w4 w.heap.size o n (.slice ao m.length c) := by
      have h1 := HA3.out
      have hk : ∀ (j : Nat) u, w3.cell? ⟨w.heap.size, j, none⟩ = some u → w4.cell? ⟨w.heap.size, j, none⟩ = some u := fun j u h => hgrow4.cell h (by intro e; cases e)
      exact ⟨hk _ _ h1.1, hk _ _ h1.2.1, hk _ _ h1.2.2⟩
    have hGl := (hown4.lt G rfl).2
    have hwG : w.heap.size < G := by rw [hG]; exact cell_in HA3.out.1
    obtain ⟨C, hC⟩ : ∃ C, C = l.length + (1 + m.length) * 4 := ⟨_, rfl⟩
    rw [← hC] at hown4 ⊢
    have q5 := bl1 w4 (.cells #[.slice (some ⟨G, 0, none⟩) l.length C] 27)
    obtain ⟨B, hBd⟩ : ∃ B, B = w4.heap.size := ⟨_, rfl⟩
    obtain ⟨w5, hw5⟩ : ∃ w5, w5 = w4.alloc (.cells #[.slice (some ⟨G, 0, none⟩) l.length C] 27) := ⟨_, rfl⟩
    have hc5 : w5.cell? ⟨B, 0, none⟩ = some (.slice (some ⟨G, 0, none⟩) l.length C) := by rw [hw5, hBd]; simp [go_sem]
    have hf5 : w5.frozen? ⟨B, 0, none⟩ = false := by rw [hw5, hBd]; simp [go_sem]
    rw [← hw5] at q5
    have HO5 := hid13 (own_b13 q5 hown4)
    have HB5 := hid13 (keepb q5 HB4.out)
    have HA5 := hid13 (hA4.below q5)
    have HR5 := HR.out.below HB5.out
    have hcp : ∀ ad, bo = some ad → ∀ j u, (l.map cB)[j]? = some u → w5.cell? (ad.add j) = some u := by
      intro ad e j u hj
      obtain ⟨-, ao', c', e', -, h⟩ := HR5
      injection e' with e1 e2 e3
      subst e1
      rcases h with ⟨rfl, -, -⟩ | ⟨a, ha, h⟩
      · cases e
      · rw [ha] at e
        injection e with e
        subst e
        exact h j u hj
    have hcn : bo = none → l.map cB = [] := by
      intro e
      obtain ⟨-, ao', c', e', -, h⟩ := HR5
      injection e' with e1 e2 e3
      subst e1
      rcases h with ⟨-, -, h⟩ | ⟨a, ha, -⟩
      · rw [List.eq_nil_of_length_eq_zero h]; rfl
      · rw [ha] at e; cases e
    have HCP := hid13 hcp
    have HCN := hid13 hcn
    have HN5 : Hid (w.heap.size < G ∧ G < B ∧ B < w5.heap.size) := ⟨hwG, by rw [hBd]; exact hGl, cell_in hc5⟩
    have HC : Hid (C = l.length + (1 + m.length) * 4) := hC
    clear hcp hcn HR5 hown4 hgrow4 hA4 hGl hwG q5 HB4 HA3 HB3 hG hC w1' w2'
    go_wp2_with (first | (rw [← hw5]; rw [← hBd]; refine wpList_copy_any rfl (.tmp 23) (.tmp 24) 27 27 rfl 5 i0 1 Try.underlying27 hi hz1 w.heap.size G l.length C _ rfl HO5.out bo l.length bc rfl (Nat.le_refl _) (l.map cB) (by simp) HCN.out HCP.out (cB_one l) ?_; intro w6 ho6 hgrow6; have HP6 := hid13 (And.intro ho6 hgrow6); obtain ⟨b0, b1, b2⟩ := HA5.out.grown hgrow6 (by intro e; injection e with e; have := HN5.out; omega); clear ho6 hgrow6) | (go_at_call 98; refine (words_any o n _ _).mono ?_; rintro e w7 ⟨rfl, hw7⟩))
    obtain ⟨ho6, hgrow6⟩ := HP6.out
    rw [List.drop_eq_nil_of_le (by simp), List.append_nil] at ho6
    obtain ⟨O, rfl⟩ : ∃ O : Nat, o = (O : Int) := ⟨o.toNat, by have := HF.out; omega⟩
    obtain ⟨k, rfl⟩ : ∃ k : Nat, n = (k : Int) := ⟨n.toNat, by have := HF.out; omega⟩
    have hHE := HE.out
    rw [Int.toNat_natCast, Int.toNat_natCast] at hHE
    have HE2 := hid13 hHE
    clear hHE HE
    have q7 := bl1 w6 (.cells #[.int .i64 (O : Int), .int .i64 (k : Int), .slice ao m.length c] 67)
    have a7 := ati_new w6 (O : Int) (k : Int) (.slice ao m.length c) 67
    rw [← hw7] at q7 a7
    obtain ⟨A, hAd⟩ : ∃ A, A = w6.heap.size := ⟨_, rfl⟩
    obtain ⟨N, hNd⟩ : ∃ N, N = w7.heap.size := ⟨_, rfl⟩
    have hNA : A < N := by rw [hNd, hAd, hw7]; simp
    rw [← hw7]
    rw [← hAd] at a7 ⊢
    rw [← hBd]
    have hBne : B ≠ G := by have := HN5.out; omega
    have eB : w6.heap[B]? = w5.heap[B]? := hgrow6.block B HN5.out.2.2 (by intro e; injection e with e; exact hBne e)
    have hc6 : w6.cell? ⟨B, 0, none⟩ = some (.slice (some ⟨G, 0, none⟩) l.length C) := (World.cell?_of_block (a := ⟨B, 0, none⟩) eB).trans hc5
    have hf6 : w6.frozen? ⟨B, 0, none⟩ = false := (World.frozen?_of_block (a := ⟨B, 0, none⟩) eB).trans hf5
    have hB6 : Below w.heap.size w w6 := HB5.out.grown hgrow6 HB5.out.size (fun z hz => by injection hz with hz; have := HN5.out; omega)
    have hBA : B < A := by rw [hAd]; exact cell_in hc6
    have HEn : Hid (EnW w N G B w7 (.slice (some ⟨G, 0, none⟩) l.length C) (.slice (some ⟨G, 0, none⟩) l.length C) (l ++ ([] : List (BitVec 32)).flatMap fun x => by4 x.toNat)) := by
      refine ⟨keepb q7 hB6, keepc q7 hc6, keepf q7 hc6 hf6, ?_, ?_, by rw [hNd]; exact Nat.le_refl _⟩
      · show w7.ownsRow _ _ _ _ (l ++ []).length ((l ++ []).map cB)
        rw [List.append_nil]; exact own_b13 q7 ho6
      · intro z hz; injection hz with hz; exact .inl hz.symm
    have HWd : Hid (WdM (fun z => z < w.heap.size ∨ z = A) A (O : Int) (k : Int) ao c m w7) := by
      refine ⟨a7, .inr rfl, HM.out.below (keepb q7 hB6), ?_⟩
      intro hne ad e
      obtain ⟨ao', c', e', -, hr⟩ := HM.out
      injection e' with e1 e2 e3
      subst e1
      rcases hr with hr | ⟨b, off, e2, hr⟩
      · exact absurd hr hne
      · obtain ⟨x, t, hx⟩ := List.exists_cons_of_ne_nil hne
        have hc := hr 0 x (by rw [hx]; rfl)
        rw [e] at e2
        injection e2 with e2
        rw [e2]
        exact .inl (cell_in hc)
    have HNs : Hid (w.heap.size < G ∧ G < B ∧ B < A ∧ A < N) := ⟨HN5.out.1, HN5.out.2.1, hBA, hNA⟩
    have HOK : Hid (O ≤ 4 ∧ k < 16777216 ∧ m.length ≤ 1000000000) := by have := HF.out; exact ⟨by omega, by omega, by omega⟩
    clear ho6 hgrow6 HP6 HN5 q7 a7 hw7 hc6 hf6 hB6 eB hc5 hf5 HA5 HB5 HO5 hw5 hBd hBA hNA hBne HCP HCN b0 b1 b2 hAd
    refine (wpIn_wide (n := 9)).1 ?_
    refine rangeXA 9 (by decide) (gf := 119) (lb := #[.pointer (some ⟨A, 0, none⟩)]) rfl (enters_of Try.func119 (by kernel_rfl) rfl)
      (words1_any (9 - 1) (fun z => z < w.heap.size ∨ z = A) A O k ao c m HOK.out.1 HOK.out.2.1 HOK.out.2.2 0 w7 HWd.out) (Nat.zero_le _) (fun A => KZ.refl _ _) (fun h k => h.trans k) (fun V o o' h1 h2 => kz_put (by have := HNs.out; rw [hNd] at this; rintro (q | q) <;> omega) V o o' h1 h2) (Below.refl _ _) (fun _ => rfl)
      (fun pre V => ∃ vb, EnW w N G B V vb vb (l ++ pre.flatMap fun x => by4 x.toNat))
      (fun c pre V => False)
      (fun s X Y row hs hg hr => by obtain ⟨vb, h⟩ := hs; exact ⟨vb, h.kept hg (by have := HNs.out; omega) (fun r e => ⟨by rw [hNd]; exact (hr r e).1, (hr r e).2⟩)⟩)
      (fun c s X Y row hs hg hr => hs)
      ⟨_, HEn.out⟩
      ?AX ?assign ?body ?done ?stop
    case assign =>
      intro lo y V K hK
      unfold encU
      simp only [List.zip_toArray, List.zip_cons_cons, List.zip_nil_left, List.zip_nil_right, List.foldl_toArray, List.foldl_cons, List.foldl_nil, List.setIfInBounds_toArray, List.set_cons_zero, List.set_cons_succ, Array.zip]
      have HKK := hid13 hK
      clear hK
      gi_wp2
      exact HKK.out
    case body =>
      rintro lo pre x V hlo - ⟨vb, hE⟩ hsp
      have HEb := hid13 hE
      have HPr : Hid (pre.length < 1 + m.length) := by
        have := hsp.length_le
        simp at this
        show _ < _; omega
      clear hE hsp
      obtain ⟨R, hR⟩ : ∃ R, R = l ++ pre.flatMap fun x => by4 x.toNat := ⟨_, rfl⟩
      have HEr : Hid (EnW w N G B V vb vb R) := by show EnW _ _ _ _ _ _ _ _; rw [hR]; exact HEb.out
      have HRl : Hid (R.length + 4 ≤ 140737488355328 ∧ R.length ≤ 140737488000000) := by
        have h1 := HPr.out
        have h2 := HOK.out.2.2
        have e : R.length = l.length + 4 * pre.length := by rw [hR, List.length_append, fm_len]
        have h3 := HF.out.2.2
        constructor <;> omega
      have HRq : Hid (R ++ by4 x.toNat = l ++ (pre ++ [x]).flatMap fun x => by4 x.toNat) := by
        show _ = _
        rw [hR, List.flatMap_append, List.append_assoc]; simp
      have hnn := HNs.out
      have hBG : B ≠ G := by omega
      have hBN : B < N := by omega
      have hZ : ∀ z, (z < w.heap.size ∨ z = A) → z < w.heap.size ∨ (z ≠ G ∧ z < N) := by
        intro z hz
        rcases hz with q | q
        · exact .inl q
        · exact .inr ⟨by omega, by omega⟩
      have hZB : ¬ (B < w.heap.size ∨ B = A) := by rintro (q | q) <;> omega
      have KP := fun W => put32_any (.slice none 0 0) [] x.toNat W ⟨rfl, none, 0, rfl, Nat.le_refl _, .inl ⟨rfl, rfl, rfl⟩⟩ (by simp) x.isLt
      have hxu : ((x.toNat : Nat) : Int) = uI x := (uI_eq x).symm
      rw [hxu] at KP
      clear hR HEb hnn
      gi_wp2
      refine gh_regionR (γ := (Nat × Nat) × (Nat × Nat)) (qpOk 5 5 (by decide) (fun N => by kernel_rfl) (by kernel_rfl) (by kernel_rfl) (by kernel_rfl) (by kernel_rfl)) (by kernel_rfl) (by kernel_rfl) (by kernel_rfl) (by rintro ⟨_, _, h⟩; exact h) [some 29, some 30, some 31, some 32, none] (fun g => [vb, .int .u32 (uI x), .slice (some ⟨g.1.1, 0, none⟩) 4 g.1.2, .slice (some ⟨g.2.1, 0, none⟩) (R.length + 4) g.2.2, undef]) (by kernel_rfl) (by simp) (fun lp g X => RE (fun X => EnW w N G B X vb vb R ∧ KZ (fun z => z < w.heap.size ∨ z = A) V X ∧ KeepsFrom N V X) (fun g X => ∀ j u, ((by4 x.toNat).map cB)[j]? = some u → X.cell? ((⟨g, 0, none⟩ : Addr).add j) = some u) (fun g c X => EnW w N G B X vb (.slice (some ⟨g, 0, none⟩) (R.length + 4) c) (R ++ by4 x.toNat) ∧ KZ (fun z => z < w.heap.size ∨ z = A) V X ∧ KeepsFrom N V X) (fun g c X => EnW w N G B X (.slice (some ⟨g, 0, none⟩) (R.length + 4) c) (.slice (some ⟨g, 0, none⟩) (R.length + 4) c) (R ++ by4 x.toNat) ∧ KZ (fun z => z < w.heap.size ∨ z = A) V X ∧ KeepsFrom N V X) (lp.getD 0 false) (lp.getD 2 false) (lp.getD 3 false) (lp.getD 4 false) g X) ((0, 0), (0, 0)) ⟨fun _ => ⟨⟨HEr.out.below (below_drewN (Below.refl _ _) 1), kz_below (below_drewN (Below.refl _ _) 1), kf_below (below_drewN (Below.refl _ _) 1)⟩, fun h => (by simp at h)⟩, fun h => (by simp at h), fun h => (by simp at h), fun h => (by simp at h), fun h => (by simp at h)⟩ ?step0 ?fin0
      case step0 =>
        intro q o lp g w' a' ho hsz hun hdep hR hS K Q' hK
        have hfl : ∀ j, j ≠ q → (lp.setIfInBounds q true).getD j false = lp.getD j false := fun j hj => by rw [Array.getD_eq_getD_getElem?, Array.getD_eq_getD_getElem?, Array.getElem?_setIfInBounds_ne (by omega)]
        have hq : q < 5 := (List.getElem?_eq_some_iff.mp ho).1
        match q, ho, hun, hdep, hK, hfl, hq with
        | 0, ho, hun, hdep, hK, hfl, _ =>
          obtain rfl := Option.some.inj ho
          have hf : lp.getD 3 false = false := by
            cases h : lp.getD 3 false
            · rfl
            · have := (hR.d3 h).1; rw [hun] at this; cases this
          have o7 : a'.tmps[7]? = some (.pointer (some ⟨B, 0, none⟩)) := (hS.old14 7 (by simp)).trans rfl
          have hc := (hR.e hf).1.1.c
          have hK' := hK g w' (fun _ _ _ _ _ _ => rfl) (by rw [hfl 2 (by decide), hfl 3 (by decide), hfl 4 (by decide), getD_set_same (by rw [hsz]; decide)]; exact ⟨hR.e, hR.a, hR.s, fun h => ⟨rfl, (hR.d3 h).2⟩, hR.d4⟩) vb (by simp only [valO, Option.bind_some]; simp only [putAll, Act.put, List.setIfInBounds_toArray, List.set_cons_zero, List.set_cons_succ]; rfl)
          obtain ⟨xo, xc, hv⟩ := own_form (hR.e hf).1.1.o
          subst hv
          clear hS hdep hR
          refine gh_quiet14 (v := .slice xo R.length xc) ?_ ?_
          · (simp only [execOp, Act.eval, o7]; go_simp; first | done | (simp; done) | (simp [*]; done))
          · exact hK'
        | 1, ho, hun, hdep, hK, hfl, _ =>
          obtain rfl := Option.some.inj ho
          have o8 : a'.tmps[8]? = some (.int .u32 (uI x)) := (hS.old14 8 (by simp)).trans rfl
          have hK' := hK g w' (fun _ _ _ _ _ _ => rfl) (by rw [hfl 0 (by decide), hfl 2 (by decide), hfl 3 (by decide), hfl 4 (by decide)]; exact hR) (.int .u32 (uI x)) (by simp only [valO, Option.bind_some]; simp only [putAll, Act.put, List.setIfInBounds_toArray, List.set_cons_zero, List.set_cons_succ]; rfl)
          clear hS hdep hR
          refine gh_quiet14 (v := .int .u32 (uI x)) ?_ ?_
          · (simp only [execOp, Act.eval, o8]; go_simp; first | done | (simp; done) | (simp [*]; done))
          · exact hK'
        | 2, ho, hun, hdep, hK, hfl, _ =>
          obtain rfl := Option.some.inj ho
          have hf : lp.getD 3 false = false := by
            cases h : lp.getD 3 false
            · rfl
            · have := (hR.d3 h).2; rw [hun] at this; cases this
          have d1 : lp.getD 1 false = true := hdep { on := 1, ground := .data } (by simp) rfl
          have e30 : a'.tmps[30]? = some (.int .u32 (uI x)) := (hS.don 1 _ 30 rfl d1 rfl).trans (by simp only [putAll, Act.put, List.setIfInBounds_toArray, List.set_cons_zero, List.set_cons_succ]; rfl)
          have KE := KP w'
          have h4 : lp.getD 4 false = false := by
            cases h : lp.getD 4 false
            · rfl
            · have := hR.d4 h; rw [hf] at this; cases this
          clear hdep
          unfold Oper.wp
          simp only [execOp, Act.eval]
          simp [go_sem, e30, Oper.upon]
          refine KE.mono ?_
          rintro e W2 ⟨v2, rfl, hO2, hb2⟩
          have hO2' : W2.ownsRow w'.heap.size 5 1 v2 4 ((by4 x.toNat).map cB) := hO2
          obtain ⟨g2, c2, rfl, -, -⟩ := hO2'.form (by decide)
          obtain ⟨r1, r2, r3⟩ := (hR.e hf).1
          exact hK ((g2, c2), g.2) W2 (fun k ok s hk hl hd => gh_same14 (d := 31) (s := s) (by simp only [putAll, Act.put, List.setIfInBounds_toArray, List.set_cons_zero, List.set_cons_succ]; rfl) (by rintro rfl; have := dstG_of (by kernel_rfl) k 2 ok _ 31 hk rfl hd rfl; subst this; rw [hun] at hl; cases hl)) (by rw [hfl 0 (by decide), hfl 3 (by decide), hfl 4 (by decide), getD_set_same (by rw [hsz]; decide), hf, h4]; exact ⟨fun _ => ⟨⟨r1.below hb2, r2.trans (kz_below hb2), r3.trans (kf_below hb2)⟩, fun _ => hO2'.cells rfl⟩, fun h => (by cases h), fun h => (by cases h), fun h => (by cases h), fun h => (by cases h)⟩) _ (by simp only [valO, Option.bind_some]; simp only [putAll, Act.put, List.setIfInBounds_toArray, List.set_cons_zero, List.set_cons_succ]; rfl)
        | 3, ho, hun, hdep, hK, hfl, _ =>
          obtain rfl := Option.some.inj ho
          have d0 : lp.getD 0 false = true := hdep { on := 0, ground := .data } (by simp) rfl
          have e29 : a'.tmps[29]? = some vb := (hS.don 0 _ 29 rfl d0 rfl).trans (by simp only [putAll, Act.put, List.setIfInBounds_toArray, List.set_cons_zero, List.set_cons_succ]; rfl)
          have d2 : lp.getD 2 false = true := hdep { on := 2, ground := .data } (by simp) rfl
          have e31 : a'.tmps[31]? = some (.slice (some ⟨g.1.1, 0, none⟩) 4 g.1.2) := (hS.don 2 _ 31 rfl d2 rfl).trans (by simp only [putAll, Act.put, List.setIfInBounds_toArray, List.set_cons_zero, List.set_cons_succ]; rfl)
          obtain ⟨⟨r1, r2, r3⟩, hN⟩ := hR.e hun
          have hN := hN d2
          have h4 : lp.getD 4 false = false := by
            cases h : lp.getD 4 false
            · rfl
            · have := hR.d4 h; rw [hun] at this; cases this
          refine wp_append_lies w' (.tmp 29) (.tmp 31) 27 rfl w.heap.size 5 i0 (.int .u8 0) 1 1 Try.underlying27 hi hz0 hz1 hz2 rfl (by decide) vb R.length (R.map cB) (by simp [Act.eval, e29]) r1.o ⟨g.1.1, 0, none⟩ 4 g.1.2 ((by4 x.toNat).map cB) (by simp [Act.eval, e31]) rfl hN (cB_one _) (by decide) (by unfold maxLen; have := HRl.out; omega) (by have := HRl.out; omega) r1.b.size _ rfl ?_
          intro g4 cap4 w4 hown4 hgrow hat hlt4
          have hE4 : EnW w N G B w4 vb (.slice (some ⟨g4, 0, none⟩) (R.length + 4) cap4) (R ++ by4 x.toNat) := r1.app hBG hBN (by omega) (by rw [List.map_append, List.length_append]; exact hown4) hgrow (fun z hz => by injection hz with hz; subst hz; rcases hat with h | h; exact .inl h; exact .inr h)
          exact hK (g.1, (g4, cap4)) w4 (fun k ok s hk hl hd => gh_same14 (d := 32) (s := s) (by simp only [putAll, Act.put, List.setIfInBounds_toArray, List.set_cons_zero, List.set_cons_succ]; rfl) (by rintro rfl; have := dstG_of (by kernel_rfl) k 3 ok _ 32 hk rfl hd rfl; subst this; rw [hun] at hl; cases hl)) (by rw [hfl 0 (by decide), hfl 2 (by decide), hfl 4 (by decide), getD_set_same (by rw [hsz]; decide), h4]; exact ⟨fun h => (by cases h), fun _ _ => ⟨hE4, r2.trans (kz_app r1 hZ hgrow), r3.trans (kf_app r1 hgrow)⟩, fun h => (by cases h), fun _ => ⟨d0, d2⟩, fun h => (by cases h)⟩) _ (by simp only [valO, Option.bind_some]; simp only [putAll, Act.put, List.setIfInBounds_toArray, List.set_cons_zero, List.set_cons_succ]; rfl)
        | 4, ho, hun, hdep, hK, hfl, _ =>
          obtain rfl := Option.some.inj ho
          have d3 : lp.getD 3 false = true := hdep { on := 3, ground := .data } (by simp) rfl
          have e32 : a'.tmps[32]? = some (.slice (some ⟨g.2.1, 0, none⟩) (R.length + 4) g.2.2) := (hS.don 3 _ 32 rfl d3 rfl).trans (by simp only [putAll, Act.put, List.setIfInBounds_toArray, List.set_cons_zero, List.set_cons_succ]; rfl)
          have o7 : a'.tmps[7]? = some (.pointer (some ⟨B, 0, none⟩)) := (hS.old14 7 (by simp)).trans rfl
          obtain ⟨r1, r2, r3⟩ := hR.a d3 hun
          have z0 := r1.c
          have zf := r1.f
          have hK' := hK g (w'.setCell ⟨B, 0, none⟩ (.slice (some ⟨g.2.1, 0, none⟩) (R.length + 4) g.2.2)) (fun _ _ _ _ _ _ => rfl) (by rw [hfl 0 (by decide), hfl 2 (by decide), hfl 3 (by decide), getD_set_same (by rw [hsz]; decide), d3]; exact ⟨fun h => (by cases h), fun _ h => (by cases h), fun _ => ⟨r1.set hBG hBN (by omega), r2.trans (kz_set hZB _), r3.trans (kf_set z0 _)⟩, fun _ => hR.d3 d3, fun _ => rfl⟩) undef rfl
          clear hS hdep hR r1 r2 r3
          unfold Oper.wp
          simp [execOp, Act.eval, o7, e32, go_sem, z0, zf, Oper.upon]
          exact hK'
        | n + 5, ho, hun, hdep, hK, hfl, hq => exact absurd hq (by omega)
      case fin0 =>
        intro g V2 hR
        obtain ⟨r1, r2, r3⟩ := hR.s (by simp)
        rw [HRq.out] at r1
        simp only [putAll, Act.put, List.setIfInBounds_toArray, List.set_cons_zero, List.set_cons_succ]
        exact ⟨by rw [← hNd]; exact r3, r2, _, r1⟩
    case done =>
      rintro D ys V hD rfl ⟨vb, hE⟩ hK
      have HEd := hid13 hE
      obtain ⟨xo, xc, hv⟩ := own_form hE.o
      have c0 := hE.c
      obtain ⟨Y, hY⟩ : ∃ Y, Y = l ++ (fstW O k :: m).flatMap fun x => by4 x.toNat := ⟨_, rfl⟩
      rw [← hY] at hv HEd
      have HYe : Hid (enL l (O : Int) (k : Int) m = Y ∧ chkE (O : Int) (k : Int) m = 0) := ⟨by rw [HE2.out.1, hY]; rfl, HE2.out.2⟩
      subst hv
      clear hE hY
      refine wl_nil14 (P := Try.prog) (ops := #[]) ?_
      go_wp2
      refine ⟨by simp, .inl ⟨_, _, rfl, run_takeDeferred hK, ?_⟩⟩
      have HEe := HEd.out.kept (grownBy_putObj' _ D (.deferred none)) (by have := HNs.out; omega) (fun r e => by cases e; exact ⟨by rw [hNd]; exact hD, _, hK, rfl⟩)
      refine ⟨.tuple #[.slice xo Y.length xc, .int .i64 0], by simp [results, Try.results75, go_sem], _, by rw [HYe.out.2], ?_, HEe.b⟩
      rw [HYe.out.1]
      exact HEe.o
    case stop =>
      rintro D c pre V hD hpre h hK
      exact h.elim
  · have HE : Hid (enL l o n m = []) := by show _ = _; unfold enL; rw [if_neg h0]
    have hne : (chkE o n m != 0) = true := by simpa using h0
    clear h0
    go_wp2
    refine ⟨.tuple #[.slice none 0 0, .int .i64 (chkE o n m)], by simp [results, Try.results75, go_sem], _, rfl, ?_, HB2.out⟩
    rw [HE.out]
    exact World.ownsRow_nil _ _ _ _
end Go.Proofs.Ytdpmhpmnkollaaa
