/-
  Part 11 of the proof: 1 texts, one behind the other.
-/
import Derived.Test.YtdpfdlkaickkiaaPart8
import Derived.Test.YtdpfdlkaickkiaaPart3
import Derived.Test.YtdpfdlkaickkiaaPart9
import Derived.Test.YtdpfdlkaickkiaaPart10
namespace Go.Proofs.Ytdpfdlkaickkiaa
open Go.RowKit Go.Shelf
set_option linter.unusedSimpArgs false
set_option linter.unusedVariables false
attribute [local go_sem] Oper.semAt_some

def mgR (RS : List Rn) (r : Rn) : List Rn := match RS.getLast? with
  | none => RS ++ [r]
  | some q => if smR q r then RS else RS ++ [r]
def rnK (nm : List Rn → Rn → Int) (pre : List Rn) (r : Rn) : Rn := if r.k then ⟨r.f, true, nm pre r⟩ else r
def nbG (nm : List Rn → Rn → Int) : List Rn → List Rn → List Rn → List Rn
  | _, RS, [] => RS
  | pre, RS, r :: t => nbG nm (pre ++ [r]) (mgR RS (rnK nm pre r)) t
theorem nbG_drop (nm : List Rn → Rn → Int) (l RS : List Rn) (k : Nat) (r : Rn) (h : l[k]? = some r) : nbG nm (l.take k) RS (l.drop k) = nbG nm (l.take (k + 1)) (mgR RS (rnK nm (l.take k) r)) (l.drop (k + 1)) := by
  rw [List.drop_eq_getElem_cons (List.getElem?_eq_some_iff.mp h).1, (List.getElem?_eq_some_iff.mp h).2, List.take_add_one, h]; rfl
theorem mgR_nil (r : Rn) : mgR [] r = [r] := rfl
theorem mgR_app (RS : List Rn) (q r : Rn) : mgR (RS ++ [q]) r = if smR q r then RS ++ [q] else RS ++ [q] ++ [r] := by
  unfold mgR
  rw [List.getLast?_append, List.getLast?_singleton]; rfl
theorem mgR_len (RS : List Rn) (r : Rn) : (mgR RS r).length ≤ RS.length + 1 := by
  unfold mgR
  split
  · simp
  · split <;> simp
structure NmV (w : World) (b : Int) (vr ve : Value) (RS : List Rn) (Xc : Nat → Prop) (W : World) : Prop where
  bx : W.heap[w.heap.size]? = some (.cells #[.int .i64 b, vr] 57)
  rs : W.heap[w.heap.size + 1]? = some (.cells #[.int .i64 0, .slice none 0 0] 57)
  ow : W.ownsRow (w.heap.size + 2) 54 4 ve RS.length (rowN RS)
  kx : KX Xc w W
section
variable {w W W' : World} {b : Int} {vr ve : Value} {RS : List Rn} {Xc : Nat → Prop}
theorem NmV.below (h : NmV w b vr ve RS Xc W) (hb : Below W.heap.size W W') : NmV w b vr ve RS Xc W' :=
  ⟨(hb.block _ (lt_16 h.bx)).trans h.bx, (hb.block _ (lt_16 h.rs)).trans h.rs, own_b13 hb h.ow, h.kx.below hb⟩
theorem NmV.call (h : NmV w b vr ve RS Xc W) (hX : ∀ z, Xc z → z < w.heap.size) (hk : KX Xc W W') : NmV w b vr ve RS Xc W' :=
  ⟨(hk.2 _ (lt_16 h.bx) (fun q => by have := hX _ q; omega)).trans h.bx, (hk.2 _ (lt_16 h.rs) (fun q => by have := hX _ q; omega)).trans h.rs, own_keep18 h.ow (fun g hg => by
    have := h.ow.lt g hg
    exact hk.2 g this.2 (fun q => by have := hX _ q; omega)), h.kx.trans hk⟩
theorem NmV.base (h : NmV w b vr ve RS Xc W) (hw : ∀ z, z < w.heap.size → ¬ Xc z → True) : w.heap.size + 2 ≤ W.heap.size := by have := lt_16 h.rs; omega
end
structure NmS (w : World) (b : Int) (vr ve : Value) (RS : List Rn) (Xc : Nat → Prop) (RB : Nat) (r : Rn) (W : World) : Prop where
  v : NmV w b vr ve RS Xc W
  r : W.heap[RB]? = some (.cells #[.int .u64 (hI r.f), .int .u64 (lI r.f), .bool r.k, .int .i64 r.n] 54)
  l : w.heap.size + 2 ≤ RB
  n : ve.ownBlock ≠ some RB
section
variable {w W W' : World} {b : Int} {vr ve : Value} {RS : List Rn} {Xc : Nat → Prop} {RB : Nat} {r : Rn}
theorem NmS.below (h : NmS w b vr ve RS Xc RB r W) (hb : Below W.heap.size W W') : NmS w b vr ve RS Xc RB r W' := ⟨h.v.below hb, (hb.block _ (lt_16 h.r)).trans h.r, h.l, h.n⟩
theorem NmS.call (h : NmS w b vr ve RS Xc RB r W) (hX : ∀ z, Xc z → z < w.heap.size) (hk : KX Xc W W') : NmS w b vr ve RS Xc RB r W' := ⟨h.v.call hX hk, (hk.2 _ (lt_16 h.r) (fun q => by have := hX _ q; have := h.l; omega)).trans h.r, h.l, h.n⟩
theorem NmS.num (h : NmS w b vr ve RS Xc RB r W) (m : Int) : NmS w b vr ve RS Xc RB ⟨r.f, r.k, m⟩ (W.setCell ⟨RB, 3, none⟩ (.int .i64 m)) :=
  ⟨⟨(far_16 (by have := h.l; omega)).trans h.v.bx, (far_16 (by have := h.l; omega)).trans h.v.rs, own_far16 h.v.ow _ h.n, h.v.kx.set RB 3 _ (.inr (by have := h.l; omega))⟩, by rw [set_16 h.r]; rfl, h.l, h.n⟩
theorem NmS.new (h : NmV w b vr ve RS Xc W) (r : Rn) : NmS w b vr ve RS Xc W.heap.size r (W.alloc (.cells #[.int .u64 (hI r.f), .int .u64 (lI r.f), .bool r.k, .int .i64 r.n] 54)) := by
  refine ⟨h.below (bl1 _ _), new_16 _ _, by have := lt_16 h.rs; omega, fun q => ?_⟩
  have := (h.ow.lt _ q).2
  omega
theorem me12 (m : Nat) (h : m ≤ 1000000000) : IntKind.i64.wrap (((m + 1 : Nat) : Int) - 1) = (m : Int) := by rw [IntKind.wrap_i64]; omega
theorem mw12 (m : Nat) (h : m ≤ 1000000000) : wrap64 (m : Int) = (m : Int) := by unfold wrap64; omega
theorem own_last12 {W : World} {base g cap m : Nat} {RS0 : List Rn} {q : Rn} (h : W.ownsRow base 54 4 (.slice (some ⟨g, 0, none⟩) (m + 1) cap) (m + 1) (rowN (RS0 ++ [q]))) (hm : RS0.length = m) : RnAt W g (m * 4) q := by
  have hc : ∀ (j : Nat) (u : Value), [Value.int .u64 (hI q.f), .int .u64 (lI q.f), .bool q.k, .int .i64 q.n][j]? = some u → W.cell? ⟨g, m * 4 + j, none⟩ = some u := fun j u hj => by
    refine (own_at18 h ?_).1
    rw [rowN_app18, List.getElem?_append_right (by rw [rowN_len]; omega), rowN_len, hm, Nat.add_sub_cancel_left]
    exact hj
  exact ⟨hc 0 _ rfl, hc 1 _ rfl, hc 2 _ rfl, hc 3 _ rfl⟩
theorem NmV.push {W1 W2 : World} {g cap m : Nat} {r : Rn} (h : NmV w b vr ve RS Xc W) (hX : ∀ z, Xc z → z < w.heap.size) (hm : RS.length = m) (h1 : Below W.heap.size W W1) (ho : W2.ownsRow (w.heap.size + 2) 54 4 (.slice (some ⟨g, 0, none⟩) (m + 1) cap) (m + 1) (rowN (RS ++ [r]))) (hg : W1.grownBy W2 ve.ownBlock) :
    NmV w b vr (.slice (some ⟨g, 0, none⟩) (m + 1) cap) (RS ++ [r]) Xc W2 := by
  have h' := h.below h1
  have hne : ∀ z, ve.ownBlock = some z → w.heap.size + 2 ≤ z := fun z q => (h.ow.lt z q).1
  refine ⟨(hg.block _ (lt_16 h'.bx) (fun q => by have := hne _ q.symm; omega)).trans h'.bx, (hg.block _ (lt_16 h'.rs) (fun q => by have := hne _ q.symm; omega)).trans h'.rs, ?_, ⟨Nat.le_trans h'.kx.1 hg.size, fun z h1 h2 => (hg.block z (Nat.lt_of_lt_of_le h1 h'.kx.1) (fun q => by have := hne _ q.symm; omega)).trans (h'.kx.2 z h1 h2)⟩⟩
  rw [List.length_append, List.length_singleton, hm]; exact ho
end
set_option maxRecDepth 100000 in
set_option maxHeartbeats 16000000 in
theorem numbered_any (b : Int) (vr : Value) (l : List Rn) (gf : Nat) (lb : Array Value) (w : World) (nm : List Rn → Rn → Int) (I : List Rn → World → Prop) (Xc : Nat → Prop) (hl : l.length ≤ 1000000000)
    (eg : ∀ args X, (callFunc gf args).run Try.prog X = .ok (.enter gf args) X) (hXc : ∀ z, Xc z → z < w.heap.size) (hS : ∀ pre A B, I pre A → Below w.heap.size A B → I pre B) (hR : ∀ pre X, I pre X → RwN X vr l)
    (hN : ∀ pre r X, r.k = false → I pre X → I (pre ++ [r]) X)
    (hK : ∀ (pre : List Rn) (r : Rn) (t : List Rn) X, l = pre ++ r :: t → r.k = true → I pre X → w.heap.size ≤ X.heap.size → Calls Try.prog gf (#[.int .i64 r.n] ++ lb) X fun e X' => e = .returned (.int .i64 (nm pre r)) ∧ I (pre ++ [r]) X' ∧ KX Xc X X')
    (h0 : I [] w) :
    Calls Try.prog 45 #[.agg #[.int .i64 b, vr], .func (.func gf) #[] lb] w fun e w' => ∃ vo, e = .returned (.agg #[.int .i64 b, vo]) ∧ w'.ownsRow w.heap.size 54 4 vo (nbG nm [] [] l).length (rowN (nbG nm [] [] l)) ∧ I l w' ∧ KX Xc w w' := by
  obtain ⟨i0, hi, hz0, hz1, hz2⟩ := info13 Try.infoRn16
  obtain ⟨ao, c, hvf, -⟩ := id (hR [] w h0)
  subst hvf
  have HL : Hid (l.length ≤ 1000000000) := hl
  have HXc := hid13 hXc
  have HSt := hid13 hS
  have HRw := hid13 hR
  have HNo := hid13 hN
  have HCl := hid13 hK
  obtain ⟨R, hRR⟩ : ∃ R, R = nbG nm [] [] l := ⟨_, rfl⟩
  rw [← hRR]
  have HRR : Hid (nbG nm [] [] l = R) := hRR.symm
  have q1 := bl1 w (.cells #[.int .i64 b, .slice ao l.length c] 57)
  have q2 := bl1 (w.alloc (.cells #[.int .i64 b, .slice ao l.length c] 57)) (.cells #[.int .i64 0, .slice none 0 0] 57)
  have n1 := new_16 w (.cells #[.int .i64 b, .slice ao l.length c] 57)
  have n2 := new_16 (w.alloc (.cells #[.int .i64 b, .slice ao l.length c] 57)) (.cells #[.int .i64 0, .slice none 0 0] 57)
  rw [World.size_alloc] at n2
  have s2 : ((w.alloc (.cells #[.int .i64 b, .slice ao l.length c] 57)).alloc (.cells #[.int .i64 0, .slice none 0 0] 57)).heap.size = w.heap.size + 2 := by rw [World.size_alloc, World.size_alloc]
  have HI0 := hid13 (hS [] w _ h0 (keepb q2 q1))
  have HW0 : Hid (KX Xc w ((w.alloc (.cells #[.int .i64 b, .slice ao l.length c] 57)).alloc (.cells #[.int .i64 0, .slice none 0 0] 57)) ∧ ((w.alloc (.cells #[.int .i64 b, .slice ao l.length c] 57)).alloc (.cells #[.int .i64 0, .slice none 0 0] 57)).heap[w.heap.size]? = some (.cells #[.int .i64 b, .slice ao l.length c] 57) ∧ ((w.alloc (.cells #[.int .i64 b, .slice ao l.length c] 57)).alloc (.cells #[.int .i64 0, .slice none 0 0] 57)).heap[w.heap.size + 1]? = some (.cells #[.int .i64 0, .slice none 0 0] 57) ∧ ((w.alloc (.cells #[.int .i64 b, .slice ao l.length c] 57)).alloc (.cells #[.int .i64 0, .slice none 0 0] 57)).heap.size = w.heap.size + 2) := hid13 ⟨kx_below (keepb q2 q1), (q2.block _ (lt_16 n1)).trans n1, n2, s2⟩
  have a1 := at_16 ((q2.block _ (lt_16 n1)).trans n1) 1 _ rfl
  clear hXc hS hR hN hK h0 hRR q1 q2 n1 n2 s2
  go_enter Try.func45, Try.ntmps45
  go_wp2_with (at_make; apply stopHere9)
  refine (show wpList _ _ _ _ _ _ from ?_)
  revert HI0 HW0 a1
  generalize ((w.alloc (.cells #[.int .i64 b, .slice ao l.length c] 57)).alloc (.cells #[.int .i64 0, .slice none 0 0] 57)) = W1
  intro HI0 HW0 a1
  refine wpList_make16 _ rfl _ _ 55 rfl 54 i0 (.agg #[.int .u64 0, .int .u64 0, .bool false, .int .i64 0]) Try.underlying55 hi hz0 .i64 .i64 _ _ 0 l.length rfl rfl rfl rfl (Nat.zero_le _) (by rw [hz2]; omega) (by unfold maxLen; omega) ?_
  have q3 := bl1 W1 (.cells (madeCells (Value.agg #[.int .u64 0, .int .u64 0, .bool false, .int .i64 0]).cells (l.length * i0.size)) 54)
  have n3 := new_16 W1 (.cells (madeCells (Value.agg #[.int .u64 0, .int .u64 0, .bool false, .int .i64 0]).cells (l.length * i0.size)) 54)
  have HV0 : Hid (NmV w b (.slice ao l.length c) (.slice (some ⟨W1.heap.size, 0, none⟩) 0 l.length) [] Xc (W1.alloc (.cells (madeCells (Value.agg #[.int .u64 0, .int .u64 0, .bool false, .int .i64 0]).cells (l.length * i0.size)) 54))) := hid13 (by
    refine ⟨(q3.block _ (lt_16 HW0.out.2.1)).trans HW0.out.2.1, (q3.block _ (lt_16 HW0.out.2.2.1)).trans HW0.out.2.2.1, ?_, HW0.out.1.below q3⟩
    refine ⟨rfl, .inr ⟨W1.heap.size, l.length, _, rfl, by rw [HW0.out.2.2.2]; exact Nat.le_refl _, n3, Nat.zero_le _, by unfold maxLen; omega, ?_, ?_⟩⟩
    · rw [size_madeCells, hz1]
    · simp [rowN])
  have HI3 := hid13 (HSt.out [] W1 _ HI0.out (q3.mono (by rw [HW0.out.2.2.2]; omega)))
  have a1 := keepc q3 a1
  clear q3 n3 HI0 HW0
  revert HV0 HI3 a1
  generalize (W1.alloc (.cells (madeCells (Value.agg #[.int .u64 0, .int .u64 0, .bool false, .int .i64 0]).cells (l.length * i0.size)) 54)) = W3
  intro HV0 HI3 a1
  obtain ⟨g3, hg3⟩ : ∃ g3, g3 = W1.heap.size := ⟨_, rfl⟩
  rw [← hg3] at HV0 ⊢
  clear hg3
  go_wp2_with fail
  clear a1
  go_loopg [5, 16] l.length (fun gk ve kv wr => ∃ (k : Nat) (RS : List Rn), k + gk = l.length ∧ kv = .int .i64 (k : Int) ∧ Hid (NmV w b (.slice ao l.length c) ve RS Xc wr ∧ I (l.take k) wr ∧ nbG nm (l.take k) RS (l.drop k) = R ∧ RS.length ≤ k))
  case atStart => exact ⟨0, [], by omega, rfl, hid13 ⟨HV0.out, HI3.out, HRR.out, Nat.le_refl _⟩⟩
  case round =>
    clear HV0 HI3
    obtain ⟨k, RS, hk, rfl, HS⟩ := hrel
    have mi : IntKind.i64.wrap ((k : Int) + 1) = ((k + 1 : Nat) : Int) := by rw [IntKind.wrap_i64]; have := HL.out; push_cast; omega
    by_cases hlt : (k : Int) < (l.length : Int)
    · have hkl : k < l.length := by omega
      obtain ⟨r, hr⟩ : ∃ r, l[k]? = some r := ⟨l[k], by simp [hkl]⟩
      obtain ⟨ao2, c2, hao, -, hrow⟩ := HRw.out _ _ HS.out.2.1
      injection hao with hao1 hao2 hao3
      subst hao1 hao3
      obtain ⟨rb, rof, hra, hrc⟩ := hrow.resolve_left (by rintro rfl; simp at hkl)
      subst hra
      obtain ⟨e0, e1, e2, e3⟩ := hrc k _ hr
      have HD := hid13 (nbG_drop nm l RS k r hr)
      have hap : l = l.take k ++ r :: l.drop (k + 1) := by
        have h9 := List.take_append_drop k l
        rw [List.drop_eq_getElem_cons hkl, (List.getElem?_eq_some_iff.mp hr).2] at h9
        exact h9.symm
      have htk : l.take k ++ [r] = l.take (k + 1) := by rw [List.take_add_one, hr]; rfl
      have HCk := hid13 (fun X h1 h2 h3 => HCl.out (l.take k) r (l.drop (k + 1)) X hap h1 h2 h3)
      have HNk := hid13 (fun X h1 h2 => HNo.out (l.take k) r X h1 h2)
      rw [htk] at HCk HNk
      obtain ⟨rf, rk, rn⟩ := r
      dsimp only at e0 e1 e2 e3 HCk HNk
      have HJ : Hid (k < l.length ∧ k + gk = l.length ∧ RS.length ≤ k) := ⟨hkl, hk, HS.out.2.2.2⟩
      have HSn := hid13 (NmS.new HS.out.1 ⟨rf, rk, rn⟩)
      have HIn := hid13 (HSt.out _ _ _ HS.out.2.1 ((bl1 wr (.cells #[.int .u64 (hI rf), .int .u64 (lI rf), .bool rk, .int .i64 rn] 54)).mono (by have := HS.out.1.kx.1; omega)))
      have HF := hid13 HS.out.2.2.1
      obtain ⟨vo, vc, hve⟩ := own_form HS.out.1.ow
      subst hve


      cases rk with
      | false =>
        have HF0 : Hid (rnK nm (l.take k) ⟨rf, false, rn⟩ = ⟨rf, false, rn⟩) := rfl
        have HI9 := hid13 (HNk.out _ rfl HIn.out)
        clear HCk HNk hap htk hr hrc hkl HIn hk
        have HSx := HSn
        have f2 := at_16 HSn.out.r 2 _ rfl
        dsimp only at f2
        clear HSn
        obtain ⟨m, hm⟩ : ∃ m, m = RS.length := ⟨_, rfl⟩
        have HM : Hid (RS.length = m) := hm.symm
        have HM2 : Hid (m ≤ k) := hid13 (by rw [hm]; exact HJ.out.2.2)
        rw [← hm] at HSx ⊢
        rcases List.eq_nil_or_concat RS with hRS | ⟨RS0, q, hRS⟩
        · subst hRS
          have hm0 : m = 0 := hm
          subst hm0
          have HMg : Hid (mgR [] ⟨rf, false, rn⟩ = [] ++ [⟨rf, false, rn⟩]) := rfl
          clear hm
          go_wp2_with fail
          refine qw_region (C := (fun X => NmS w b (.slice (some ⟨rb, rof, none⟩) l.length c) (.slice vo 0 vc) ([]) Xc wr.heap.size ⟨rf, false, rn⟩ X ∧ I (l.take (k + 1)) X)) (by kernel_rfl) (by kernel_rfl) ⟨HSx.out.below (Below.refl _ _).drew, HSt.out _ _ _ HI9.out (Below.refl w.heap.size _).drew⟩ ?_
          refine qw_run (v := .int .i64 (-1)) (by rfl) ?_ ?_
          · (intro w9 hC; clear hC; go_simp; first | done | (simp; done) | (simp [*]; done) | omega | (simp; omega) | (rw [IntKind.wrap_i64]; omega) | (intro hx; omega) | rfl)
          simp only [Act.put, List.setIfInBounds_toArray, List.set_cons_zero, List.set_cons_succ]
          refine qw_run (v := .bool true) (by rfl) ?_ ?_
          · (intro w9 hC; clear hC; go_simp; first | done | (simp; done) | (simp [*]; done) | omega | (simp; omega) | (rw [IntKind.wrap_i64]; omega) | (intro hx; omega) | rfl)
          simp only [Act.put, List.setIfInBounds_toArray, List.set_cons_zero, List.set_cons_succ]
          refine qw_run (v := .bool true) (by rfl) ?_ ?_
          · (intro w9 hC; clear hC; go_simp; first | done | (simp; done) | (simp [*]; done) | omega | (simp; omega) | (rw [IntKind.wrap_i64]; omega) | (intro hx; omega) | rfl)
          simp only [Act.put, List.setIfInBounds_toArray, List.set_cons_zero, List.set_cons_succ]
          refine qw_skip (by rfl) ?_
          simp only [Act.put, List.setIfInBounds_toArray, List.set_cons_zero, List.set_cons_succ]
          refine qw_skip (by rfl) ?_
          simp only [Act.put, List.setIfInBounds_toArray, List.set_cons_zero, List.set_cons_succ]
          refine qw_skip (by rfl) ?_
          simp only [Act.put, List.setIfInBounds_toArray, List.set_cons_zero, List.set_cons_succ]
          refine qw_skip (by rfl) ?_
          simp only [Act.put, List.setIfInBounds_toArray, List.set_cons_zero, List.set_cons_succ]
          refine qw_skip (by rfl) ?_
          simp only [Act.put, List.setIfInBounds_toArray, List.set_cons_zero, List.set_cons_succ]
          refine qw_skip (by rfl) ?_
          simp only [Act.put, List.setIfInBounds_toArray, List.set_cons_zero, List.set_cons_succ]
          refine qw_skip (by rfl) ?_
          simp only [Act.put, List.setIfInBounds_toArray, List.set_cons_zero, List.set_cons_succ]
          refine qw_run (v := .bool true) (by rfl) ?_ ?_
          · (intro w9 hC; clear hC; go_simp; first | done | (simp; done) | (simp [*]; done) | omega | (simp; omega) | (rw [IntKind.wrap_i64]; omega) | (intro hx; omega) | rfl)
          simp only [Act.put, List.setIfInBounds_toArray, List.set_cons_zero, List.set_cons_succ]
          refine qw_nil ?_
          (try simp only [putAll, Act.put, List.setIfInBounds_toArray, List.set_cons_zero, List.set_cons_succ])
          intro Y hY
          have f0 := at_16 hY.1.r 0 _ rfl
          have f1 := at_16 hY.1.r 1 _ rfl
          have f2 := at_16 hY.1.r 2 _ rfl
          have f3 := at_16 hY.1.r 3 _ rfl
          dsimp only at f0 f1 f2 f3
          have HY := hid13 hY
          clear hY
          go_wp2_with (at_builtin; apply stopHere9)
          refine (show wpList _ _ _ _ _ _ from ?_)
          clear f0 f1 f2 f3
          have b3 := bl1 Y (.cells #[.int .u64 (hI rf), .int .u64 (lI rf), .bool false, .int .i64 rn] 54)
          have hYs : w.heap.size + 2 ≤ Y.heap.size := by have := lt_16 HY.out.1.v.rs; omega
          have ho := own_b13 b3 HY.out.1.v.ow
          rw [HM.out] at ho
          refine wpList_append_lies _ rfl _ _ 55 rfl (w.heap.size + 2) 54 i0 (.agg #[.int .u64 0, .int .u64 0, .bool false, .int .i64 0]) 4 32 Try.underlying55 hi hz0 hz1 hz2 rfl (by decide) _ _ _ rfl ho ⟨Y.heap.size, 0, none⟩ 1 1 [.int .u64 (hI rf), .int .u64 (lI rf), .bool false, .int .i64 rn] rfl rfl (newsN18 Y _ _ _ _ 54) (by intro u hu; simp at hu; rcases hu with rfl | rfl | rfl | rfl <;> rfl) (by decide) (by have := HJ.out; have := HM2.out; have := HL.out; unfold maxLen; omega) (by have := HJ.out; have := HM2.out; have := HL.out; omega) (by have := b3.size; omega) _ rfl ?_
          intro g9 cap9 w9 h1 h2 h3 h4
          have hrw : rowN [] ++ [.int .u64 (hI rf), .int .u64 (lI rf), .bool false, .int .i64 rn] = rowN ([] ++ [⟨rf, false, rn⟩]) := (rowN_app18 [] ⟨rf, false, rn⟩).symm
          rw [hrw] at h1
          have HP9 := hid13 (HY.out.1.v.push HXc.out HM.out b3 h1 h2)
          have hbY : Below w.heap.size Y (Y.alloc (.cells #[.int .u64 (hI rf), .int .u64 (lI rf), .bool false, .int .i64 rn] 54)) := b3.mono (by omega)
          have HI10 := hid13 (HSt.out _ _ _ HY.out.2 (hbY.grown h2 (by have := hbY.size; omega) (fun z q => by have := (HY.out.1.v.ow.lt z q).1; omega)))
          clear h1 h2 h3 h4 hrw ho b3 hbY hYs
          go_wp2
          go_roundg (gk - 1)
          case measure => have := HJ.out; omega
          case rel => exact ⟨k + 1, [] ++ [⟨rf, false, rn⟩], by have := HJ.out; omega, rfl, hid13 ⟨HP9.out, HI10.out, by rw [← HF.out, HD.out, HF0.out, HMg.out], by have h8 := HM.out; have h7 := HM2.out; have h9 : ([⟨rf, false, rn⟩] : List Rn).length = 1 := rfl; rw [List.length_append, h8, h9]; omega⟩⟩
        · rw [List.concat_eq_append] at hRS
          subst hRS
          obtain ⟨m0, rfl⟩ : ∃ m0, m = m0 + 1 := ⟨RS0.length, by rw [hm]; simp⟩
          have hm0 : RS0.length = m0 := by simpa using hm.symm
          have HM0 := hid13 hm0
          obtain ⟨t, ht⟩ : ∃ t, t = smR q ⟨rf, false, rn⟩ := ⟨_, rfl⟩
          have HMt : Hid (mgR (RS0 ++ [q]) ⟨rf, false, rn⟩ = if t then RS0 ++ [q] else RS0 ++ [q] ++ [⟨rf, false, rn⟩]) := hid13 (by rw [mgR_app, ← ht])
          have KSy := fun X => sayS_any q ⟨rf, false, rn⟩ X
          rw [← ht] at KSy
          unfold rnV at KSy
          have hov := HSx.out.v.ow
          rw [HM.out] at hov
          obtain ⟨g, cap, hvg, -⟩ := own_some18 hov (Nat.succ_pos m0)
          injection hvg with hvg1 hvg2 hvg3
          subst hvg1
          have hmb : m0 ≤ 1000000000 := Nat.le_trans (Nat.le_succ m0) (Nat.le_trans HM2.out (Nat.le_trans (Nat.le_of_lt HJ.out.1) HL.out))
          have me := me12 m0 hmb
          have mw := mw12 m0 hmb
          have mlt : (m0 : Int) < ((m0 + 1 : Nat) : Int) := Int.ofNat_lt.mpr (Nat.lt_succ_self m0)
          have m00 : ¬ (m0 : Int) < 0 := Int.not_lt.mpr (Int.natCast_nonneg m0)
          have HLa := hid13 (fun (X : World) (h : X.ownsRow (w.heap.size + 2) 54 4 (.slice (some ⟨g, 0, none⟩) (m0 + 1) vc) (RS0 ++ [q]).length (rowN (RS0 ++ [q]))) => own_last12 (by rw [HM.out] at h; exact h) hm0)
          clear hm ht hov hvg2 hvg3 hm0 hmb
          go_wp2_with fail
          refine qw_region (C := (fun X => NmS w b (.slice (some ⟨rb, rof, none⟩) l.length c) (.slice (some ⟨g, 0, none⟩) (m0 + 1) vc) (RS0 ++ [q]) Xc wr.heap.size ⟨rf, false, rn⟩ X ∧ I (l.take (k + 1)) X)) (by kernel_rfl) (by kernel_rfl) ⟨HSx.out.below (Below.refl _ _).drew, HSt.out _ _ _ HI9.out (Below.refl w.heap.size _).drew⟩ ?_
          refine qw_run (v := .int .i64 (m0 : Int)) (by rfl) ?_ ?_
          · (intro w9 hC; clear hC; go_simp; first | done | (simp; done) | (simp [*]; done) | omega | (simp; omega) | (rw [IntKind.wrap_i64]; omega) | (intro hx; omega) | rfl)
          simp only [Act.put, List.setIfInBounds_toArray, List.set_cons_zero, List.set_cons_succ]
          refine qw_run (v := .bool false) (by rfl) ?_ ?_
          · (intro w9 hC; clear hC; go_simp; first | done | (simp; done) | (simp [*]; done) | omega | (simp; omega) | (rw [IntKind.wrap_i64]; omega) | (intro hx; omega) | rfl)
          simp only [Act.put, List.setIfInBounds_toArray, List.set_cons_zero, List.set_cons_succ]
          refine qw_run (v := .bool false) (by rfl) ?_ ?_
          · (intro w9 hC; clear hC; go_simp; first | done | (simp; done) | (simp [*]; done) | omega | (simp; omega) | (rw [IntKind.wrap_i64]; omega) | (intro hx; omega) | rfl)
          simp only [Act.put, List.setIfInBounds_toArray, List.set_cons_zero, List.set_cons_succ]
          refine qw_run (v := .slice (some ⟨g, 0, none⟩) (m0 + 1) vc) (by rfl) ?_ ?_
          · (intro w9 hC; clear hC; go_simp; first | done | (simp; done) | (simp [*]; done) | omega | (simp; omega) | (rw [IntKind.wrap_i64]; omega) | (intro hx; omega) | rfl)
          simp only [Act.put, List.setIfInBounds_toArray, List.set_cons_zero, List.set_cons_succ]
          refine qw_run (v := .int .i64 (m0 : Int)) (by rfl) ?_ ?_
          · (intro w9 hC; clear hC; go_simp; first | done | (simp; done) | (simp [*]; done) | omega | (simp; omega) | (rw [IntKind.wrap_i64]; omega) | (intro hx; omega) | rfl)
          simp only [Act.put, List.setIfInBounds_toArray, List.set_cons_zero, List.set_cons_succ]
          refine qw_run (v := .pointer (some ⟨g, m0 * 4, none⟩)) (by rfl) ?_ ?_
          · (intro w9 hC; clear hC; go_simp; first | done | (simp; done) | (simp [*]; done) | omega | (simp; omega) | (rw [IntKind.wrap_i64]; omega) | (intro hx; omega) | rfl)
          simp only [Act.put, List.setIfInBounds_toArray, List.set_cons_zero, List.set_cons_succ]
          refine qw_run (v := .agg #[.int .u64 (hI q.f), .int .u64 (lI q.f), .bool q.k, .int .i64 q.n]) (by rfl) ?_ ?_
          · (intro w9 hC; obtain ⟨c0, c1, c2, c3⟩ := HLa.out _ hC.1.v.ow; clear hC; go_simp; first | done | (simp; done) | (simp [*]; done) | omega | (simp; omega) | (rw [IntKind.wrap_i64]; omega) | (intro hx; omega) | rfl)
          simp only [Act.put, List.setIfInBounds_toArray, List.set_cons_zero, List.set_cons_succ]
          refine qw_run (v := .agg #[.int .u64 (hI rf), .int .u64 (lI rf), .bool false, .int .i64 rn]) (by rfl) ?_ ?_
          · (intro w9 hC; have c0 := at_16 hC.1.r 0 _ rfl; have c1 := at_16 hC.1.r 1 _ rfl; have c2 := at_16 hC.1.r 2 _ rfl; have c3 := at_16 hC.1.r 3 _ rfl; dsimp only at c0 c1 c2 c3; clear hC; go_simp; first | done | (simp; done) | (simp [*]; done) | omega | (simp; omega) | (rw [IntKind.wrap_i64]; omega) | (intro hx; omega) | rfl)
          simp only [Act.put, List.setIfInBounds_toArray, List.set_cons_zero, List.set_cons_succ]
          refine qw_call (v := .bool t) (f := 70) (args := #[.agg #[.int .u64 (hI q.f), .int .u64 (lI q.f), .bool q.k, .int .i64 q.n], .agg #[.int .u64 (hI rf), .int .u64 (lI rf), .bool false, .int .i64 rn]]) (by rfl) ?_ ?_ ?_
          · (intro w9 hC; clear hC; go_simp; first | done | (simp; done) | rfl)
          · exact fun w9 hC => (KSy w9).mono fun e w' ⟨he, hb⟩ => ⟨he, ⟨hC.1.below hb, HSt.out _ _ _ hC.2 (hb.mono (by have := lt_16 hC.1.v.rs; omega))⟩⟩
          simp only [Act.put, List.setIfInBounds_toArray, List.set_cons_zero, List.set_cons_succ]
          refine qw_run (v := .bool (!t)) (by rfl) ?_ ?_
          · (intro w9 hC; clear hC; go_simp; first | done | (simp; done) | (simp [*]; done) | omega | (simp; omega) | (rw [IntKind.wrap_i64]; omega) | (intro hx; omega) | rfl)
          simp only [Act.put, List.setIfInBounds_toArray, List.set_cons_zero, List.set_cons_succ]
          refine qw_run (v := .bool (!t)) (by rfl) ?_ ?_
          · (intro w9 hC; clear hC; go_simp; first | done | (simp; done) | (simp [*]; done) | omega | (simp; omega) | (rw [IntKind.wrap_i64]; omega) | (intro hx; omega) | rfl)
          simp only [Act.put, List.setIfInBounds_toArray, List.set_cons_zero, List.set_cons_succ]
          refine qw_nil ?_
          (try simp only [putAll, Act.put, List.setIfInBounds_toArray, List.set_cons_zero, List.set_cons_succ])
          intro Y hY
          clear KSy me mw mlt m00
          cases t with
          | true =>
            have HY := hid13 hY
            clear hY
            go_wp2
            go_roundg (gk - 1)
            case measure => have := HJ.out; omega
            case rel => exact ⟨k + 1, RS0 ++ [q], by have := HJ.out; omega, rfl, hid13 ⟨HY.out.1.v, HY.out.2, by rw [← HF.out, HD.out, HF0.out, HMt.out]; rfl, by rw [HM.out]; have := HJ.out; have := HM2.out; omega⟩⟩
          | false =>
            have HMg : Hid (mgR (RS0 ++ [q]) ⟨rf, false, rn⟩ = RS0 ++ [q] ++ [⟨rf, false, rn⟩]) := hid13 (by rw [HMt.out]; rfl)
            have f0 := at_16 hY.1.r 0 _ rfl
            have f1 := at_16 hY.1.r 1 _ rfl
            have f2 := at_16 hY.1.r 2 _ rfl
            have f3 := at_16 hY.1.r 3 _ rfl
            dsimp only at f0 f1 f2 f3
            have HY := hid13 hY
            clear hY
            go_wp2_with (at_builtin; apply stopHere9)
            refine (show wpList _ _ _ _ _ _ from ?_)
            clear f0 f1 f2 f3
            have b3 := bl1 Y (.cells #[.int .u64 (hI rf), .int .u64 (lI rf), .bool false, .int .i64 rn] 54)
            have hYs : w.heap.size + 2 ≤ Y.heap.size := by have := lt_16 HY.out.1.v.rs; omega
            have ho := own_b13 b3 HY.out.1.v.ow
            rw [HM.out] at ho
            refine wpList_append_lies _ rfl _ _ 55 rfl (w.heap.size + 2) 54 i0 (.agg #[.int .u64 0, .int .u64 0, .bool false, .int .i64 0]) 4 32 Try.underlying55 hi hz0 hz1 hz2 rfl (by decide) _ _ _ rfl ho ⟨Y.heap.size, 0, none⟩ 1 1 [.int .u64 (hI rf), .int .u64 (lI rf), .bool false, .int .i64 rn] rfl rfl (newsN18 Y _ _ _ _ 54) (by intro u hu; simp at hu; rcases hu with rfl | rfl | rfl | rfl <;> rfl) (by decide) (by have := HJ.out; have := HM2.out; have := HL.out; unfold maxLen; omega) (by have := HJ.out; have := HM2.out; have := HL.out; omega) (by have := b3.size; omega) _ rfl ?_
            intro g9 cap9 w9 h1 h2 h3 h4
            have hrw : rowN (RS0 ++ [q]) ++ [.int .u64 (hI rf), .int .u64 (lI rf), .bool false, .int .i64 rn] = rowN ((RS0 ++ [q]) ++ [⟨rf, false, rn⟩]) := (rowN_app18 (RS0 ++ [q]) ⟨rf, false, rn⟩).symm
            rw [hrw] at h1
            have HP9 := hid13 (HY.out.1.v.push HXc.out HM.out b3 h1 h2)
            have hbY : Below w.heap.size Y (Y.alloc (.cells #[.int .u64 (hI rf), .int .u64 (lI rf), .bool false, .int .i64 rn] 54)) := b3.mono (by omega)
            have HI10 := hid13 (HSt.out _ _ _ HY.out.2 (hbY.grown h2 (by have := hbY.size; omega) (fun z q => by have := (HY.out.1.v.ow.lt z q).1; omega)))
            clear h1 h2 h3 h4 hrw ho b3 hbY hYs
            go_wp2
            go_roundg (gk - 1)
            case measure => have := HJ.out; omega
            case rel => exact ⟨k + 1, (RS0 ++ [q]) ++ [⟨rf, false, rn⟩], by have := HJ.out; omega, rfl, hid13 ⟨HP9.out, HI10.out, by rw [← HF.out, HD.out, HF0.out, HMg.out], by have h8 := HM.out; have h7 := HM2.out; have h9 : ([⟨rf, false, rn⟩] : List Rn).length = 1 := rfl; rw [List.length_append, h8, h9]; omega⟩⟩
      | true =>
        have HF0 : Hid (rnK nm (l.take k) ⟨rf, true, rn⟩ = ⟨rf, true, nm (l.take k) ⟨rf, true, rn⟩⟩) := rfl
        have HBs : Hid (w.heap.size ≤ wr.heap.size + 1) := hid13 (by have := HS.out.1.kx.1; omega)
        have KC := HCk.out (wr.alloc (.cells #[.int .u64 (hI rf), .int .u64 (lI rf), .bool true, .int .i64 rn] 54)) rfl HIn.out (by rw [World.size_alloc]; exact HBs.out)
        have f2 := at_16 HSn.out.r 2 _ rfl
        have f3 := at_16 HSn.out.r 3 _ rfl
        dsimp only at f2 f3
        obtain ⟨nn, hnn⟩ : ∃ nn, nn = nm (l.take k) ⟨rf, true, rn⟩ := ⟨_, rfl⟩
        rw [← hnn] at KC HF0
        clear HCk HNk hap htk hr hrc hkl hk hnn
        go_wp2_with fail
        refine KC.mono ?_
        rintro e w6 ⟨rfl, hi6, hk6⟩
        have HS6 := hid13 (HSn.out.call HXc.out hk6)
        have HI6 := hid13 hi6
        have g3 := fr_16 (j := 3) HS6.out.r
        have g3c := at_16 HS6.out.r 3 _ rfl
        dsimp only at g3c
        have HSx := hid13 (HS6.out.num nn)
        have HI9 := hid13 (HSt.out _ _ _ HI6.out ((Below.refl w.heap.size w6).setCell (p := ⟨wr.heap.size, 3, none⟩) (by show w.heap.size ≤ wr.heap.size; have := HS.out.1.kx.1; omega) (.int .i64 nn)))
        clear KC hi6 hk6 f2 f3 HS6 HI6 HIn HSn e0 e1 e2 e3
        obtain ⟨m, hm⟩ : ∃ m, m = RS.length := ⟨_, rfl⟩
        have HM : Hid (RS.length = m) := hm.symm
        have HM2 : Hid (m ≤ k) := hid13 (by rw [hm]; exact HJ.out.2.2)
        rw [← hm] at HSx ⊢
        rcases List.eq_nil_or_concat RS with hRS | ⟨RS0, q, hRS⟩
        · subst hRS
          have hm0 : m = 0 := hm
          subst hm0
          have HMg : Hid (mgR [] ⟨rf, true, nn⟩ = [] ++ [⟨rf, true, nn⟩]) := rfl
          clear hm
          go_wp2_with fail
          refine qw_region (C := (fun X => NmS w b (.slice (some ⟨rb, rof, none⟩) l.length c) (.slice vo 0 vc) ([]) Xc wr.heap.size ⟨rf, true, nn⟩ X ∧ I (l.take (k + 1)) X)) (by kernel_rfl) (by kernel_rfl) ⟨HSx.out.below (Below.refl _ _).drew, HSt.out _ _ _ HI9.out (Below.refl w.heap.size _).drew⟩ ?_
          refine qw_run (v := .int .i64 (-1)) (by rfl) ?_ ?_
          · (intro w9 hC; clear hC; go_simp; first | done | (simp; done) | (simp [*]; done) | omega | (simp; omega) | (rw [IntKind.wrap_i64]; omega) | (intro hx; omega) | rfl)
          simp only [Act.put, List.setIfInBounds_toArray, List.set_cons_zero, List.set_cons_succ]
          refine qw_run (v := .bool true) (by rfl) ?_ ?_
          · (intro w9 hC; clear hC; go_simp; first | done | (simp; done) | (simp [*]; done) | omega | (simp; omega) | (rw [IntKind.wrap_i64]; omega) | (intro hx; omega) | rfl)
          simp only [Act.put, List.setIfInBounds_toArray, List.set_cons_zero, List.set_cons_succ]
          refine qw_run (v := .bool true) (by rfl) ?_ ?_
          · (intro w9 hC; clear hC; go_simp; first | done | (simp; done) | (simp [*]; done) | omega | (simp; omega) | (rw [IntKind.wrap_i64]; omega) | (intro hx; omega) | rfl)
          simp only [Act.put, List.setIfInBounds_toArray, List.set_cons_zero, List.set_cons_succ]
          refine qw_skip (by rfl) ?_
          simp only [Act.put, List.setIfInBounds_toArray, List.set_cons_zero, List.set_cons_succ]
          refine qw_skip (by rfl) ?_
          simp only [Act.put, List.setIfInBounds_toArray, List.set_cons_zero, List.set_cons_succ]
          refine qw_skip (by rfl) ?_
          simp only [Act.put, List.setIfInBounds_toArray, List.set_cons_zero, List.set_cons_succ]
          refine qw_skip (by rfl) ?_
          simp only [Act.put, List.setIfInBounds_toArray, List.set_cons_zero, List.set_cons_succ]
          refine qw_skip (by rfl) ?_
          simp only [Act.put, List.setIfInBounds_toArray, List.set_cons_zero, List.set_cons_succ]
          refine qw_skip (by rfl) ?_
          simp only [Act.put, List.setIfInBounds_toArray, List.set_cons_zero, List.set_cons_succ]
          refine qw_skip (by rfl) ?_
          simp only [Act.put, List.setIfInBounds_toArray, List.set_cons_zero, List.set_cons_succ]
          refine qw_run (v := .bool true) (by rfl) ?_ ?_
          · (intro w9 hC; clear hC; go_simp; first | done | (simp; done) | (simp [*]; done) | omega | (simp; omega) | (rw [IntKind.wrap_i64]; omega) | (intro hx; omega) | rfl)
          simp only [Act.put, List.setIfInBounds_toArray, List.set_cons_zero, List.set_cons_succ]
          refine qw_nil ?_
          (try simp only [putAll, Act.put, List.setIfInBounds_toArray, List.set_cons_zero, List.set_cons_succ])
          intro Y hY
          have f0 := at_16 hY.1.r 0 _ rfl
          have f1 := at_16 hY.1.r 1 _ rfl
          have f2 := at_16 hY.1.r 2 _ rfl
          have f3 := at_16 hY.1.r 3 _ rfl
          dsimp only at f0 f1 f2 f3
          have HY := hid13 hY
          clear hY
          go_wp2_with (at_builtin; apply stopHere9)
          refine (show wpList _ _ _ _ _ _ from ?_)
          clear f0 f1 f2 f3
          have b3 := bl1 Y (.cells #[.int .u64 (hI rf), .int .u64 (lI rf), .bool true, .int .i64 nn] 54)
          have hYs : w.heap.size + 2 ≤ Y.heap.size := by have := lt_16 HY.out.1.v.rs; omega
          have ho := own_b13 b3 HY.out.1.v.ow
          rw [HM.out] at ho
          refine wpList_append_lies _ rfl _ _ 55 rfl (w.heap.size + 2) 54 i0 (.agg #[.int .u64 0, .int .u64 0, .bool false, .int .i64 0]) 4 32 Try.underlying55 hi hz0 hz1 hz2 rfl (by decide) _ _ _ rfl ho ⟨Y.heap.size, 0, none⟩ 1 1 [.int .u64 (hI rf), .int .u64 (lI rf), .bool true, .int .i64 nn] rfl rfl (newsN18 Y _ _ _ _ 54) (by intro u hu; simp at hu; rcases hu with rfl | rfl | rfl | rfl <;> rfl) (by decide) (by have := HJ.out; have := HM2.out; have := HL.out; unfold maxLen; omega) (by have := HJ.out; have := HM2.out; have := HL.out; omega) (by have := b3.size; omega) _ rfl ?_
          intro g9 cap9 w9 h1 h2 h3 h4
          have hrw : rowN [] ++ [.int .u64 (hI rf), .int .u64 (lI rf), .bool true, .int .i64 nn] = rowN ([] ++ [⟨rf, true, nn⟩]) := (rowN_app18 [] ⟨rf, true, nn⟩).symm
          rw [hrw] at h1
          have HP9 := hid13 (HY.out.1.v.push HXc.out HM.out b3 h1 h2)
          have hbY : Below w.heap.size Y (Y.alloc (.cells #[.int .u64 (hI rf), .int .u64 (lI rf), .bool true, .int .i64 nn] 54)) := b3.mono (by omega)
          have HI10 := hid13 (HSt.out _ _ _ HY.out.2 (hbY.grown h2 (by have := hbY.size; omega) (fun z q => by have := (HY.out.1.v.ow.lt z q).1; omega)))
          clear h1 h2 h3 h4 hrw ho b3 hbY hYs
          go_wp2
          go_roundg (gk - 1)
          case measure => have := HJ.out; omega
          case rel => exact ⟨k + 1, [] ++ [⟨rf, true, nn⟩], by have := HJ.out; omega, rfl, hid13 ⟨HP9.out, HI10.out, by rw [← HF.out, HD.out, HF0.out, HMg.out], by have h8 := HM.out; have h7 := HM2.out; have h9 : ([⟨rf, true, nn⟩] : List Rn).length = 1 := rfl; rw [List.length_append, h8, h9]; omega⟩⟩
        · rw [List.concat_eq_append] at hRS
          subst hRS
          obtain ⟨m0, rfl⟩ : ∃ m0, m = m0 + 1 := ⟨RS0.length, by rw [hm]; simp⟩
          have hm0 : RS0.length = m0 := by simpa using hm.symm
          have HM0 := hid13 hm0
          obtain ⟨t, ht⟩ : ∃ t, t = smR q ⟨rf, true, nn⟩ := ⟨_, rfl⟩
          have HMt : Hid (mgR (RS0 ++ [q]) ⟨rf, true, nn⟩ = if t then RS0 ++ [q] else RS0 ++ [q] ++ [⟨rf, true, nn⟩]) := hid13 (by rw [mgR_app, ← ht])
          have KSy := fun X => sayS_any q ⟨rf, true, nn⟩ X
          rw [← ht] at KSy
          unfold rnV at KSy
          have hov := HSx.out.v.ow
          rw [HM.out] at hov
          obtain ⟨g, cap, hvg, -⟩ := own_some18 hov (Nat.succ_pos m0)
          injection hvg with hvg1 hvg2 hvg3
          subst hvg1
          have hmb : m0 ≤ 1000000000 := Nat.le_trans (Nat.le_succ m0) (Nat.le_trans HM2.out (Nat.le_trans (Nat.le_of_lt HJ.out.1) HL.out))
          have me := me12 m0 hmb
          have mw := mw12 m0 hmb
          have mlt : (m0 : Int) < ((m0 + 1 : Nat) : Int) := Int.ofNat_lt.mpr (Nat.lt_succ_self m0)
          have m00 : ¬ (m0 : Int) < 0 := Int.not_lt.mpr (Int.natCast_nonneg m0)
          have HLa := hid13 (fun (X : World) (h : X.ownsRow (w.heap.size + 2) 54 4 (.slice (some ⟨g, 0, none⟩) (m0 + 1) vc) (RS0 ++ [q]).length (rowN (RS0 ++ [q]))) => own_last12 (by rw [HM.out] at h; exact h) hm0)
          clear hm ht hov hvg2 hvg3 hm0 hmb
          go_wp2_with fail
          refine qw_region (C := (fun X => NmS w b (.slice (some ⟨rb, rof, none⟩) l.length c) (.slice (some ⟨g, 0, none⟩) (m0 + 1) vc) (RS0 ++ [q]) Xc wr.heap.size ⟨rf, true, nn⟩ X ∧ I (l.take (k + 1)) X)) (by kernel_rfl) (by kernel_rfl) ⟨HSx.out.below (Below.refl _ _).drew, HSt.out _ _ _ HI9.out (Below.refl w.heap.size _).drew⟩ ?_
          refine qw_run (v := .int .i64 (m0 : Int)) (by rfl) ?_ ?_
          · (intro w9 hC; clear hC; go_simp; first | done | (simp; done) | (simp [*]; done) | omega | (simp; omega) | (rw [IntKind.wrap_i64]; omega) | (intro hx; omega) | rfl)
          simp only [Act.put, List.setIfInBounds_toArray, List.set_cons_zero, List.set_cons_succ]
          refine qw_run (v := .bool false) (by rfl) ?_ ?_
          · (intro w9 hC; clear hC; go_simp; first | done | (simp; done) | (simp [*]; done) | omega | (simp; omega) | (rw [IntKind.wrap_i64]; omega) | (intro hx; omega) | rfl)
          simp only [Act.put, List.setIfInBounds_toArray, List.set_cons_zero, List.set_cons_succ]
          refine qw_run (v := .bool false) (by rfl) ?_ ?_
          · (intro w9 hC; clear hC; go_simp; first | done | (simp; done) | (simp [*]; done) | omega | (simp; omega) | (rw [IntKind.wrap_i64]; omega) | (intro hx; omega) | rfl)
          simp only [Act.put, List.setIfInBounds_toArray, List.set_cons_zero, List.set_cons_succ]
          refine qw_run (v := .slice (some ⟨g, 0, none⟩) (m0 + 1) vc) (by rfl) ?_ ?_
          · (intro w9 hC; clear hC; go_simp; first | done | (simp; done) | (simp [*]; done) | omega | (simp; omega) | (rw [IntKind.wrap_i64]; omega) | (intro hx; omega) | rfl)
          simp only [Act.put, List.setIfInBounds_toArray, List.set_cons_zero, List.set_cons_succ]
          refine qw_run (v := .int .i64 (m0 : Int)) (by rfl) ?_ ?_
          · (intro w9 hC; clear hC; go_simp; first | done | (simp; done) | (simp [*]; done) | omega | (simp; omega) | (rw [IntKind.wrap_i64]; omega) | (intro hx; omega) | rfl)
          simp only [Act.put, List.setIfInBounds_toArray, List.set_cons_zero, List.set_cons_succ]
          refine qw_run (v := .pointer (some ⟨g, m0 * 4, none⟩)) (by rfl) ?_ ?_
          · (intro w9 hC; clear hC; go_simp; first | done | (simp; done) | (simp [*]; done) | omega | (simp; omega) | (rw [IntKind.wrap_i64]; omega) | (intro hx; omega) | rfl)
          simp only [Act.put, List.setIfInBounds_toArray, List.set_cons_zero, List.set_cons_succ]
          refine qw_run (v := .agg #[.int .u64 (hI q.f), .int .u64 (lI q.f), .bool q.k, .int .i64 q.n]) (by rfl) ?_ ?_
          · (intro w9 hC; obtain ⟨c0, c1, c2, c3⟩ := HLa.out _ hC.1.v.ow; clear hC; go_simp; first | done | (simp; done) | (simp [*]; done) | omega | (simp; omega) | (rw [IntKind.wrap_i64]; omega) | (intro hx; omega) | rfl)
          simp only [Act.put, List.setIfInBounds_toArray, List.set_cons_zero, List.set_cons_succ]
          refine qw_run (v := .agg #[.int .u64 (hI rf), .int .u64 (lI rf), .bool true, .int .i64 nn]) (by rfl) ?_ ?_
          · (intro w9 hC; have c0 := at_16 hC.1.r 0 _ rfl; have c1 := at_16 hC.1.r 1 _ rfl; have c2 := at_16 hC.1.r 2 _ rfl; have c3 := at_16 hC.1.r 3 _ rfl; dsimp only at c0 c1 c2 c3; clear hC; go_simp; first | done | (simp; done) | (simp [*]; done) | omega | (simp; omega) | (rw [IntKind.wrap_i64]; omega) | (intro hx; omega) | rfl)
          simp only [Act.put, List.setIfInBounds_toArray, List.set_cons_zero, List.set_cons_succ]
          refine qw_call (v := .bool t) (f := 70) (args := #[.agg #[.int .u64 (hI q.f), .int .u64 (lI q.f), .bool q.k, .int .i64 q.n], .agg #[.int .u64 (hI rf), .int .u64 (lI rf), .bool true, .int .i64 nn]]) (by rfl) ?_ ?_ ?_
          · (intro w9 hC; clear hC; go_simp; first | done | (simp; done) | rfl)
          · exact fun w9 hC => (KSy w9).mono fun e w' ⟨he, hb⟩ => ⟨he, ⟨hC.1.below hb, HSt.out _ _ _ hC.2 (hb.mono (by have := lt_16 hC.1.v.rs; omega))⟩⟩
          simp only [Act.put, List.setIfInBounds_toArray, List.set_cons_zero, List.set_cons_succ]
          refine qw_run (v := .bool (!t)) (by rfl) ?_ ?_
          · (intro w9 hC; clear hC; go_simp; first | done | (simp; done) | (simp [*]; done) | omega | (simp; omega) | (rw [IntKind.wrap_i64]; omega) | (intro hx; omega) | rfl)
          simp only [Act.put, List.setIfInBounds_toArray, List.set_cons_zero, List.set_cons_succ]
          refine qw_run (v := .bool (!t)) (by rfl) ?_ ?_
          · (intro w9 hC; clear hC; go_simp; first | done | (simp; done) | (simp [*]; done) | omega | (simp; omega) | (rw [IntKind.wrap_i64]; omega) | (intro hx; omega) | rfl)
          simp only [Act.put, List.setIfInBounds_toArray, List.set_cons_zero, List.set_cons_succ]
          refine qw_nil ?_
          (try simp only [putAll, Act.put, List.setIfInBounds_toArray, List.set_cons_zero, List.set_cons_succ])
          intro Y hY
          clear KSy me mw mlt m00
          cases t with
          | true =>
            have HY := hid13 hY
            clear hY
            go_wp2
            go_roundg (gk - 1)
            case measure => have := HJ.out; omega
            case rel => exact ⟨k + 1, RS0 ++ [q], by have := HJ.out; omega, rfl, hid13 ⟨HY.out.1.v, HY.out.2, by rw [← HF.out, HD.out, HF0.out, HMt.out]; rfl, by rw [HM.out]; have := HJ.out; have := HM2.out; omega⟩⟩
          | false =>
            have HMg : Hid (mgR (RS0 ++ [q]) ⟨rf, true, nn⟩ = RS0 ++ [q] ++ [⟨rf, true, nn⟩]) := hid13 (by rw [HMt.out]; rfl)
            have f0 := at_16 hY.1.r 0 _ rfl
            have f1 := at_16 hY.1.r 1 _ rfl
            have f2 := at_16 hY.1.r 2 _ rfl
            have f3 := at_16 hY.1.r 3 _ rfl
            dsimp only at f0 f1 f2 f3
            have HY := hid13 hY
            clear hY
            go_wp2_with (at_builtin; apply stopHere9)
            refine (show wpList _ _ _ _ _ _ from ?_)
            clear f0 f1 f2 f3
            have b3 := bl1 Y (.cells #[.int .u64 (hI rf), .int .u64 (lI rf), .bool true, .int .i64 nn] 54)
            have hYs : w.heap.size + 2 ≤ Y.heap.size := by have := lt_16 HY.out.1.v.rs; omega
            have ho := own_b13 b3 HY.out.1.v.ow
            rw [HM.out] at ho
            refine wpList_append_lies _ rfl _ _ 55 rfl (w.heap.size + 2) 54 i0 (.agg #[.int .u64 0, .int .u64 0, .bool false, .int .i64 0]) 4 32 Try.underlying55 hi hz0 hz1 hz2 rfl (by decide) _ _ _ rfl ho ⟨Y.heap.size, 0, none⟩ 1 1 [.int .u64 (hI rf), .int .u64 (lI rf), .bool true, .int .i64 nn] rfl rfl (newsN18 Y _ _ _ _ 54) (by intro u hu; simp at hu; rcases hu with rfl | rfl | rfl | rfl <;> rfl) (by decide) (by have := HJ.out; have := HM2.out; have := HL.out; unfold maxLen; omega) (by have := HJ.out; have := HM2.out; have := HL.out; omega) (by have := b3.size; omega) _ rfl ?_
            intro g9 cap9 w9 h1 h2 h3 h4
            have hrw : rowN (RS0 ++ [q]) ++ [.int .u64 (hI rf), .int .u64 (lI rf), .bool true, .int .i64 nn] = rowN ((RS0 ++ [q]) ++ [⟨rf, true, nn⟩]) := (rowN_app18 (RS0 ++ [q]) ⟨rf, true, nn⟩).symm
            rw [hrw] at h1
            have HP9 := hid13 (HY.out.1.v.push HXc.out HM.out b3 h1 h2)
            have hbY : Below w.heap.size Y (Y.alloc (.cells #[.int .u64 (hI rf), .int .u64 (lI rf), .bool true, .int .i64 nn] 54)) := b3.mono (by omega)
            have HI10 := hid13 (HSt.out _ _ _ HY.out.2 (hbY.grown h2 (by have := hbY.size; omega) (fun z q => by have := (HY.out.1.v.ow.lt z q).1; omega)))
            clear h1 h2 h3 h4 hrw ho b3 hbY hYs
            go_wp2
            go_roundg (gk - 1)
            case measure => have := HJ.out; omega
            case rel => exact ⟨k + 1, (RS0 ++ [q]) ++ [⟨rf, true, nn⟩], by have := HJ.out; omega, rfl, hid13 ⟨HP9.out, HI10.out, by rw [← HF.out, HD.out, HF0.out, HMg.out], by have h8 := HM.out; have h7 := HM2.out; have h9 : ([⟨rf, true, nn⟩] : List Rn).length = 1 := rfl; rw [List.length_append, h8, h9]; omega⟩⟩
    · have hke : k = l.length := by omega
      have HE : Hid (RS = R) := hid13 (by
        have h9 := HS.out.2.2.1
        rw [hke, List.drop_length] at h9
        exact h9)
      have HIe : Hid (I l wr) := hid13 (by
        have h9 := HS.out.2.1
        rw [hke, List.take_length] at h9
        exact h9)
      have HVe := hid13 HS.out.1
      rw [HE.out] at HVe
      obtain ⟨vo, vc, hve⟩ := own_form HVe.out.ow
      subst hve
      have a0 := at_16 HVe.out.bx 0 _ rfl
      have r0 := at_16 HVe.out.rs 0 _ rfl
      have r1 := at_16 HVe.out.rs 1 _ rfl
      have rf0 := fr_16 (j := 0) HVe.out.rs
      have rf1 := fr_16 (j := 1) HVe.out.rs
      have y1 : (wr.setCell ⟨w.heap.size + 1, 0, none⟩ (.int .i64 b)).heap[w.heap.size + 1]? = some (.cells #[.int .i64 b, .slice none 0 0] 57) := set_16 HVe.out.rs _
      have y2 : ((wr.setCell ⟨w.heap.size + 1, 0, none⟩ (.int .i64 b)).setCell ⟨w.heap.size + 1, 1, none⟩ (.slice vo R.length vc)).heap[w.heap.size + 1]? = some (.cells #[.int .i64 b, .slice vo R.length vc] 57) := set_16 y1 _
      have HZ : Hid (∀ U, U = (wr.setCell ⟨w.heap.size + 1, 0, none⟩ (.int .i64 b)).setCell ⟨w.heap.size + 1, 1, none⟩ (.slice vo R.length vc) → U.cell? ⟨w.heap.size + 1, 0, none⟩ = some (.int .i64 b) ∧ U.cell? ⟨w.heap.size + 1, 1, none⟩ = some (.slice vo R.length vc) ∧ U.ownsRow w.heap.size 54 4 (.slice vo R.length vc) R.length (rowN R) ∧ I l U ∧ KX Xc w U) := hid13 (by
        rintro U rfl
        have hne : (Value.slice vo R.length vc).ownBlock ≠ some (w.heap.size + 1) := fun q => by have := (HVe.out.ow.lt _ q).1; omega
        refine ⟨at_16 y2 0 _ rfl, at_16 y2 1 _ rfl, own_base16 (own_far16 (own_far16 HVe.out.ow _ hne) _ hne) (by omega), ?_, (HVe.out.kx.set _ _ _ (.inr (by omega))).set _ _ _ (.inr (by omega))⟩
        exact HSt.out _ _ _ HIe.out (((Below.refl w.heap.size wr).setCell (p := ⟨w.heap.size + 1, 0, none⟩) (by show w.heap.size ≤ w.heap.size + 1; omega) _).setCell (p := ⟨w.heap.size + 1, 1, none⟩) (by show w.heap.size ≤ w.heap.size + 1; omega) _))
      clear y1 y2 hke hk
      go_wp2
      obtain ⟨z0, z1, z2, z3, z4⟩ := HZ.out _ rfl
      exact bodyPost_ret (v := .agg #[.int .i64 b, .slice vo R.length vc]) (by simp [results, Try.results45, go_sem, z0, z1]) rfl ⟨_, rfl, z2, z3, z4⟩
end Go.Proofs.Ytdpfdlkaickkiaa
