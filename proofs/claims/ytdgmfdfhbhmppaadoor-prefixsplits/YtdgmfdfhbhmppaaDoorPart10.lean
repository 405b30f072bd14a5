/-
  Part 10 of the proof: 1 texts, one behind the other.
-/
import Derived.Test.YtdgmfdfhbhmppaaDoorPart5
import Derived.Test.YtdgmfdfhbhmppaaDoorPart4
import Derived.Test.YtdgmfdfhbhmppaaDoorPart6
import Derived.Test.YtdgmfdfhbhmppaaDoorPart8
import Derived.Test.YtdgmfdfhbhmppaaDoorPart9
/-
  What the sequence of package prefix's Split tells.
-/
namespace Go.Proofs.YtdgmfdfhbhmppaaDoor
open Go.RowKit Go.Shelf
set_option linter.unusedSimpArgs false
set_option linter.unusedVariables false
attribute [local go_sem] Oper.semAt_some

theorem wl_nil6 {P : Program} {ops : Array Oper} {Q : Exit → Act → World → Prop} {a : Act} {w : World} (h : wpList P ops Q [] a w) : Q .normal a w := h
theorem gh_quiet6 {P : Program} {o : Oper} {a' : Act} {w' : World} {K : Act → World → Prop} {Q' : Exit → Act → World → Prop} {v : Value} (hr : (execOp a'.eval o).run P w' = .ok (.value v) w') (hK : K (a'.put o.dst v) w') : o.wp P a' w' K Q' := by
  unfold Oper.wp
  rw [hr]
  exact hK
theorem gh_same6 {x y : Array Value} {d s : Nat} (h : x.toList.eraseIdx d = y.toList.eraseIdx d) (hs : s ≠ d) : x[s]? = y[s]? := by
  have := erase_get x.toList y.toList d s h hs
  simpa using this
theorem Slt.old {l : List Oper} {a A : Act} {lp : Array Bool} {a' : Act} (h : Slt l a A lp a') (s : Nat) (hs : ∀ o ∈ l, o.dst ≠ some s) : a'.tmps[s]? = a.tmps[s]? := h.oth s (fun k o hk _ => hs o (List.mem_of_getElem? hk))
theorem AtP.set6 {W : World} {B : Nat} {px : BitVec 128} {pn : Int} (k : AtP W B px pn) (z : BitVec 128) (n : Int) : AtP (((W.setCell ⟨B, 0, none⟩ (.int .u64 (hI z))).setCell ⟨B, 1, none⟩ (.int .u64 (lI z))).setCell ⟨B, 2, none⟩ (.int .i64 n)) B z n := by
  obtain ⟨c0, c1, c2, f0, f1, f2⟩ := k
  refine ⟨?_, ?_, ?_, ?_, ?_, ?_⟩ <;> simp [go_sem, *]
theorem AtP.lt6 {W : World} {B : Nat} {x : BitVec 128} {n : Int} (k : AtP W B x n) : B < W.heap.size := cell_in k.1
/-- What is known while the last one is laid into a variable. -/
structure RL (V : World) (cx : BitVec 128) (nn : Int) (b5 b6 : Bool) (g : Nat) (W : World) : Prop where
  bel : Below V.heap.size V W
  a : b5 = true → V.heap.size ≤ g ∧ (if b6 = true then AtP W g cx nn else AtP W g 0#128 0)
  c : b6 = true → b5 = true
theorem RL.below {V : World} {cx : BitVec 128} {nn : Int} {b5 b6 : Bool} {g : Nat} {W W' : World} (k : RL V cx nn b5 b6 g W) (hb : Below W.heap.size W W') : RL V cx nn b5 b6 g W' := ⟨keepb hb k.bel, fun h => ⟨(k.a h).1, by have := (k.a h).2; cases b6 <;> simp at this ⊢ <;> exact this.below hb⟩, k.c⟩
theorem RL.al {V : World} {cx : BitVec 128} {nn : Int} {b6 : Bool} {g : Nat} {W : World} (k : RL V cx nn false b6 g W) : RL V cx nn true b6 W.heap.size (W.alloc (.cells #[.int .u64 0, .int .u64 0, .int .i64 0] 26)) := by
  have h6 : b6 = false := by
    cases h : b6 with
    | false => rfl
    | true => exact absurd (k.c h) (by decide)
  have hb := bl1 W (.cells #[.int .u64 0, .int .u64 0, .int .i64 0] 26)
  have ha := atp_new W W.heap.size 0#128 0 26 rfl
  rw [hI_zero, lI_zero] at ha
  exact ⟨keepb hb k.bel, fun _ => ⟨k.bel.size, by rw [h6, if_neg (by decide)]; exact ha⟩, fun _ => rfl⟩
theorem RL.st {V : World} {cx : BitVec 128} {nn : Int} {b5 : Bool} {g : Nat} {W : World} (k : RL V cx nn b5 false g W) (h5 : b5 = true) : RL V cx nn b5 true g (((W.setCell ⟨g, 0, none⟩ (.int .u64 (hI cx))).setCell ⟨g, 1, none⟩ (.int .u64 (lI cx))).setCell ⟨g, 2, none⟩ (.int .i64 nn)) := by
  obtain ⟨h1, h2⟩ := k.a h5
  rw [if_neg (by decide)] at h2
  exact ⟨((k.bel.setCell (p := ⟨g, 0, none⟩) h1 _).setCell (p := ⟨g, 1, none⟩) h1 _).setCell (p := ⟨g, 2, none⟩) h1 _, fun _ => ⟨h1, by rw [if_pos rfl]; exact h2.set6 cx nn⟩, fun _ => h5⟩
/-- What is known while rising is called. -/
structure RI (V : World) (px cx st : BitVec 128) (b7 : Bool) (g : Nat) (W : World) : Prop where
  bel : Below V.heap.size V W
  r : b7 = true → V.heap.size ≤ g ∧ At W g px ∧ At W (g + 1) cx ∧ At W (g + 2) st
theorem RI.below {V : World} {px cx st : BitVec 128} {b7 : Bool} {g : Nat} {W W' : World} (k : RI V px cx st b7 g W) (hb : Below W.heap.size W W') : RI V px cx st b7 g W' := ⟨keepb hb k.bel, fun h => ⟨(k.r h).1, (k.r h).2.1.below hb, (k.r h).2.2.1.below hb, (k.r h).2.2.2.below hb⟩⟩
theorem RI.made {V : World} {px cx st : BitVec 128} {b7 : Bool} {g : Nat} {W W' : World} (k : RI V px cx st b7 g W) (h : W' = ((W.alloc (.cells #[.int .u64 (hI px), .int .u64 (lI px)] 24)).alloc (.cells #[.int .u64 (hI cx), .int .u64 (lI cx)] 24)).alloc (.cells #[.int .u64 (hI st), .int .u64 (lI st)] 24)) : RI V px cx st true W.heap.size W' := by
  subst h
  have b1 := bl1 W (.cells #[.int .u64 (hI px), .int .u64 (lI px)] 24)
  have b2 := bl1 (W.alloc (.cells #[.int .u64 (hI px), .int .u64 (lI px)] 24)) (.cells #[.int .u64 (hI cx), .int .u64 (lI cx)] 24)
  have b3 := bl1 ((W.alloc (.cells #[.int .u64 (hI px), .int .u64 (lI px)] 24)).alloc (.cells #[.int .u64 (hI cx), .int .u64 (lI cx)] 24)) (.cells #[.int .u64 (hI st), .int .u64 (lI st)] 24)
  exact ⟨keepb b3 (keepb b2 (keepb b1 k.bel)), fun _ => ⟨k.bel.size, ((at_new W W.heap.size px 24 rfl).below b2).below b3, (at_new _ (W.heap.size + 1) cx 24 (by simp)).below b3, at_new _ (W.heap.size + 2) st 24 (by simp)⟩⟩
theorem rising_any (px cx st : BitVec 128) (w : World) : Calls Tryd.prog 25 #[.agg #[.int .u64 (hI px), .int .u64 (lI px)], .agg #[.int .u64 (hI cx), .int .u64 (lI cx)], .agg #[.int .u64 (hI st), .int .u64 (lI st)]] w fun e w' => e = .returned (.func (.func 48) #[] #[.pointer (some ⟨w.heap.size, 0, none⟩), .pointer (some ⟨w.heap.size + 1, 0, none⟩), .pointer (some ⟨w.heap.size + 2, 0, none⟩)]) ∧ w' = ((w.alloc (.cells #[.int .u64 (hI px), .int .u64 (lI px)] 24)).alloc (.cells #[.int .u64 (hI cx), .int .u64 (lI cx)] 24)).alloc (.cells #[.int .u64 (hI st), .int .u64 (lI st)] 24) := by
  go_enter Tryd.func25, Tryd.ntmps25
  go_wp2
  go_ret
  exact ⟨rfl, rfl⟩
theorem psplit_any (F : Int) (px : BitVec 128) (pl nn : Int) (w : World) : Calls Tryd.prog 8 #[.int .i64 F, .agg #[.int .u64 (hI px), .int .u64 (lI px), .int .i64 pl], .int .i64 nn] w fun e w' => e = .returned (.func (.func 22) #[] #[.pointer (some ⟨w.heap.size, 0, none⟩), .pointer (some ⟨w.heap.size + 1, 0, none⟩), .pointer (some ⟨w.heap.size + 2, 0, none⟩)]) ∧ w' = ((w.alloc (.cells #[.int .i64 F] 3)).alloc (.cells #[.int .u64 (hI px), .int .u64 (lI px), .int .i64 pl] 26)).alloc (.cells #[.int .i64 nn] 3) := by
  go_enter Tryd.func8, Tryd.ntmps8
  go_wp2
  go_ret
  exact ⟨rfl, rfl⟩
/-- What Split tells. -/
def spL (F : Int) (px : BitVec 128) (pl nn : Int) : List (BitVec 128 × Int) := if checkE F px pl = 0 ∧ pl ≤ nn ∧ nn ≤ F then (ris (bit1 (nn - 1)) (2 ^ (nn - pl).toNat - 1) px).map (fun w => (w, nn)) else []
def encP (x : BitVec 128 × Int) : Array Value := #[.agg #[.int .u64 (hI x.1), .int .u64 (lI x.1), .int .i64 x.2]]
structure SpM (Z : Nat → Prop) (B Af Ap An : Nat) (F : Int) (px : BitVec 128) (pl nn : Int) (W : World) : Prop where
  f : W.cell? ⟨Af, 0, none⟩ = some (.int .i64 F)
  p : AtP W Ap px pl
  n : W.cell? ⟨An, 0, none⟩ = some (.int .i64 nn)
  zf : Z Af ∨ B ≤ Af
  zp : Z Ap ∨ B ≤ Ap
  zn : Z An ∨ B ≤ An
theorem AtP.kw {Z : Nat → Prop} {B : Nat} {W W' : World} {b : Nat} {x : BitVec 128} {n : Int} (k : AtP W b x n) (h : KW Z B W W') (hz : Z b ∨ B ≤ b) : AtP W' b x n := by
  have hlt := k.lt6
  have e : W'.heap[b]? = W.heap[b]? := by rw [h.2 b _ (Array.getElem?_eq_getElem hlt) hz, Array.getElem?_eq_getElem hlt]
  obtain ⟨c0, c1, c2, f0, f1, f2⟩ := k
  exact ⟨(World.cell?_of_block (a := ⟨b, 0, none⟩) e).trans c0, (World.cell?_of_block (a := ⟨b, 1, none⟩) e).trans c1, (World.cell?_of_block (a := ⟨b, 2, none⟩) e).trans c2, (World.frozen?_of_block (a := ⟨b, 0, none⟩) e).trans f0, (World.frozen?_of_block (a := ⟨b, 1, none⟩) e).trans f1, (World.frozen?_of_block (a := ⟨b, 2, none⟩) e).trans f2⟩
theorem SpM.kw {Z : Nat → Prop} {B Af Ap An : Nat} {F : Int} {px : BitVec 128} {pl nn : Int} {W W' : World} (k : SpM Z B Af Ap An F px pl nn W) (h : KW Z B W W') : SpM Z B Af Ap An F px pl nn W' := ⟨kw_cell h k.zf k.f, k.p.kw h k.zp, kw_cell h k.zn k.n, k.zf, k.zp, k.zn⟩
theorem fam_of_check {F : Int} {px : BitVec 128} {pn : Int} (h : checkE F px pn = 0) : fam F = true := by
  unfold checkE at h
  split at h
  · assumption
  · cases h
theorem rt_of_check {F : Int} {px : BitVec 128} {pn : Int} (h : checkE F px pn = 0) : Rt F px pn := by
  unfold checkE at h
  split at h
  · split at h
    · cases h
    · split at h
      · cases h
      · split at h
        · rename_i a b c
          exact ⟨by omega, by omega, by simpa using c⟩
        · cases h
  · cases h
theorem fam_bd6 (F : Int) (hf : fam F = true) : 0 ≤ F ∧ F ≤ 128 := by rcases fam_ways F hf with rfl | rfl <;> decide
theorem RoundIn.wide6 {n m : Nat} {P : Program} {l : Nat} {f : FuncId} {tmps : Array Value} {assign body : Code} {w : World} {R : Ending → World → Prop} (h : RoundIn Fence.wide n P l f tmps assign body w R) : RoundIn Fence.wide m P l f tmps assign body w R := ⟨h.1, fun c cs _ => h.2 c cs (fun d e => by cases e)⟩
theorem split_last (F : Int) (hf : fam F = true) (px : BitVec 128) (pl nn : Int) (h : Rt F px pl) (h1 : pl ≤ nn) (h2 : nn ≤ F) : (cutW (lastW F px pl) nn).toNat = px.toNat + 2 ^ (128 - pl.toNat) - 2 ^ (128 - nn.toNat) := by
  have hF := (fam_bd6 F hf).2
  have h0 := h.1
  have a := last_nat F px pl h hF
  have hd := (cut_dvd px pl).mp h.2.2
  have s0 : 0 < 2 ^ (128 - F.toNat) := Nat.pow_pos (by decide)
  have s1 : 0 < 2 ^ (128 - nn.toNat) := Nat.pow_pos (by decide)
  have le1 : 2 ^ (128 - F.toNat) ≤ 2 ^ (128 - nn.toNat) := Nat.pow_le_pow_right (by decide) (by omega)
  have le2 : 2 ^ (128 - nn.toNat) ≤ 2 ^ (128 - pl.toNat) := Nat.pow_le_pow_right (by decide) (by omega)
  have dv : 2 ^ (128 - nn.toNat) ∣ 2 ^ (128 - pl.toNat) := Nat.pow_dvd_pow 2 (by omega)
  obtain ⟨c, hc⟩ := Nat.dvd_trans dv hd
  obtain ⟨d, hd'⟩ := dv
  rw [cut_nat]
  have hd1 : 1 ≤ d := by
    cases d with
    | zero => omega
    | succ d => omega
  obtain ⟨d', rfl⟩ : ∃ d', d = d' + 1 := ⟨d - 1, by omega⟩
  generalize 2 ^ (128 - nn.toNat) = K at *
  generalize 2 ^ (128 - pl.toNat) = M at *
  generalize 2 ^ (128 - F.toNat) = S at *
  have e1 : (lastW F px pl).toNat = K * (c + d') + (K - S) := by
    have : K * (c + (d' + 1)) = K * c + K * (d' + 1) := Nat.mul_add _ _ _
    have e2 : K * (d' + 1) = K * d' + K := Nat.mul_succ _ _
    have e3 : K * (c + d') = K * c + K * d' := Nat.mul_add _ _ _
    omega
  rw [e1, Nat.mul_add_div s1, Nat.div_eq_of_lt (by omega), Nat.add_zero]
  have e2 : K * (d' + 1) = K * d' + K := Nat.mul_succ _ _
  have e3 : (c + d') * K = K * c + K * d' := by rw [Nat.mul_comm, Nat.mul_add]
  omega
theorem split_ris (F : Int) (hf : fam F = true) (px : BitVec 128) (pl nn : Int) (h : Rt F px pl) (h1 : pl ≤ nn) (h2 : nn ≤ F) : RisTo (bit1 (nn - 1)) (cutW (lastW F px pl) nn) (2 ^ (nn - pl).toNat - 1) px := by
  have hF := (fam_bd6 F hf).2
  have h0 := h.1
  by_cases e : nn = pl
  · subst e
    have e2 : (nn - nn).toNat = 0 := by omega
    rw [e2, Nat.pow_zero, Nat.sub_self]
    show px = _
    have a := last_cut F px nn h
    exact a.symm
  · have hst : (bit1 (nn - 1)).toNat = 2 ^ (128 - nn.toNat) := by
      rw [bit1_nat (nn - 1) (by omega) (by omega)]
      congr 1
      omega
    have pw : 0 < 2 ^ (128 - nn.toNat) := Nat.pow_pos (by decide)
    refine ris_to _ _ (by rw [hst]; exact pw) _ _ ?_
    rw [hst, split_last F hf px pl nn h h1 h2]
    have e3 : 2 ^ (nn - pl).toNat * 2 ^ (128 - nn.toNat) = 2 ^ (128 - pl.toNat) := by
      rw [← Nat.pow_add]
      congr 1
      omega
    have p2 : 0 < 2 ^ (nn - pl).toNat := Nat.pow_pos (by decide)
    rw [Nat.sub_mul, e3, Nat.one_mul]
    have : 2 ^ (128 - nn.toNat) ≤ 2 ^ (128 - pl.toNat) := Nat.pow_le_pow_right (by decide) (by omega)
    omega
set_option maxRecDepth 100000 in
set_option maxHeartbeats 16000000 in
theorem split1_any (n : Nat) (Z : Nat → Prop) (B Af Ap An : Nat) (F : Int) (px : BitVec 128) (pl nn : Int) (w : World) (hM : SpM Z B Af Ap An F px pl nn w) :
    SeqX n Tryd.prog 22 #[.pointer (some ⟨Af, 0, none⟩), .pointer (some ⟨Ap, 0, none⟩), .pointer (some ⟨An, 0, none⟩)] encP (KW Z B) (fun ys => ys = spL F px pl nn) (fun pre => pre <+: spL F px pl nn) B w := by
  intro l J Jx W hW hB hJ hJx hY h0
  have q0 := bl1 W (.cells #[.func (.yield l) #[] #[]] 52)
  have HM := hidX ((hM.kw (kw_below hW)).kw (kw_below q0))
  have HJ := hidX hJ
  have HJX := hidX hJx
  have HY := hidX hY
  have HJ0 := hidX (hJ [] _ _ none h0 (below_grownX q0) (fun r e => by cases e))
  have HYB : Hid ((W.alloc (.cells #[.func (.yield l) #[] #[]] 52)).cell? ⟨W.heap.size, 0, none⟩ = some (.func (.yield l) #[] #[])) := hidX (by simp [go_sem])
  have HQ0 := hidX q0
  have HB := hidX hB
  have K1 := fun w => pcheck_any F px pl w
  obtain ⟨f0, ⟨p0, p1, p2, -, -, -⟩, n0, -, -, -⟩ := HM.out
  clear hJ hJx hY h0 hM q0 hB
  refine callsIn_wide.2 ((callsIn_wide (n := 7)).1 ?_)
  refine callsIn_of_wp_marks Tryd.func22 rfl trivial ?_ rfl
  simp only [Tryd.ntmps22, List.size_toArray, List.length_cons, List.length_nil, Nat.reduceAdd, Nat.reduceSub, Array.replicate_succ, Array.replicate_zero, List.push_toArray, List.append_toArray, List.nil_append, List.cons_append]
  refine wpIn_wide.2 ?_
  go_wp2_with fail
  refine (K1 _).mono ?_
  rintro e V1 ⟨rfl, hb1⟩
  have HM1 := hidX (HM.out.kw (kw_below hb1))
  have HY1 := hidX (keepc hb1 HYB.out)
  have HB1 := hidX (keepb hb1 HQ0.out)
  have HJ1 := hidX (HJ.out [] _ _ none HJ0.out (below_grownX hb1) (fun r e => by cases e))
  clear K1 hb1 HM HYB HQ0 HJ0 f0 p0 p1 p2 n0
  obtain ⟨f0, ⟨p0, p1, p2, -, -, -⟩, n0, -, -, -⟩ := HM1.out
  have nil6 : ∀ (V : World), spL F px pl nn = [] → J [] V → (∃ v, (Ending.returned (.tuple #[]) : Ending) = .returned v) ∧ ((∃ xs, xs = spL F px pl nn ∧ J xs V) ∨ ∃ pre, pre <+: spL F px pl nn ∧ Jx pre V) := fun V e h => ⟨⟨_, rfl⟩, .inl ⟨[], e.symm, h⟩⟩
  have HNil := hidX nil6
  clear nil6
  by_cases c1 : checkE F px pl = 0
  · have d1 : (checkE F px pl != 0) = false := by simp [c1]
    have hrt := rt_of_check c1
    have hf := fam_of_check c1
    rw [c1]
    rw [c1] at d1
    by_cases c2 : nn < pl
    · have d2 : decide (nn < pl) = true := by simpa using c2
      have HE : Hid (spL F px pl nn = []) := hidX (by rw [spL, if_neg (fun h => by omega)])
      clear c1
      go_wp2
      exact ⟨_, results_none rfl _ _ _, HNil.out _ HE.out HJ1.out⟩
    · have d2 : decide (nn < pl) = false := by simpa using c2
      by_cases c3 : F < nn
      · have d3 : decide (F < nn) = true := by simpa using c3
        have HE : Hid (spL F px pl nn = []) := hidX (by rw [spL, if_neg (fun h => by omega)])
        clear c1
        go_wp2
        exact ⟨_, results_none rfl _ _ _, HNil.out _ HE.out HJ1.out⟩
      · have d3 : decide (F < nn) = false := by simpa using c3
        have hF := (fam_bd6 F hf)
        have hp0 := hrt.1
        have HSP : Hid (spL F px pl nn = (ris (bit1 (nn - 1)) (2 ^ (nn - pl).toNat - 1) px).map (fun w => (w, nn))) := hidX (by rw [spL, if_pos ⟨c1, by omega, by omega⟩])
        have HRS := hidX (split_ris F hf px pl nn hrt (by omega) (by omega))
        have KL := fun w => plast_any F px pl w
        have KC := fun w => cut_any (lastW F px pl) nn w
        have KF := fun w => pfirst_any px pl w
        have KB := fun w => pbit_any (nn - 1) w
        have hw1 : IntKind.i64.wrap (nn - 1) = nn - 1 := by rw [IntKind.wrap_i64]; omega
        have HLen : Hid ((spL F px pl nn).length = 2 ^ (nn - pl).toNat - 1 + 1) := hidX (by rw [HSP.out, List.length_map, ris_len])
        revert HSP HRS KL KC KB HLen
        generalize 2 ^ (nn - pl).toNat - 1 = N
        generalize bit1 (nn - 1) = st
        generalize cutW (lastW F px pl) nn = cx
        generalize lastW F px pl = la
        intro HSP HRS KL KC KB HLen
        have KR := fun w => rising_any px cx st w
        have HC : Hid (∀ V, Below V1.heap.size V1 V → (V.cell? ⟨Af, 0, none⟩ = some (.int .i64 F) ∧ True) ∧ AtP V Ap px pl ∧ (V.cell? ⟨An, 0, none⟩ = some (.int .i64 nn) ∧ True)) := hidX (fun V hb => ⟨⟨keepc hb HM1.out.f, trivial⟩, HM1.out.p.below hb, keepc hb HM1.out.n, trivial⟩)
        clear c1 c2 c3 hrt hf hF hp0 HNil
        go_wp2_with fail
        refine gh_region (γ := Nat) (qpOk 7 7 (by decide) (fun N => by kernel_rfl) (by kernel_rfl) (by kernel_rfl) (by kernel_rfl) (by kernel_rfl)) (by kernel_rfl) (by kernel_rfl) [some 22, some 23, some 24, some 25, some 26, some 5, none] (fun g => [.int .i64 F, .agg #[.int .u64 (hI px), .int .u64 (lI px), .int .i64 pl], .agg #[.int .u64 (hI la), .int .u64 (lI la)], .int .i64 nn, .agg #[.int .u64 (hI cx), .int .u64 (lI cx), .int .i64 nn], .pointer (some ⟨g, 0, none⟩), undef]) (by kernel_rfl) (by simp) (fun lp g V => RL V1 cx nn (lp.getD 5 false) (lp.getD 6 false) g V) 0 ⟨below_drewN (Below.refl _ _) 1, fun h => (by simp at h), fun h => (by simp at h)⟩ ?step ?fin
        case step =>
          intro q o lp g w' a' ho hsz hun hdep hR hS K Q' hK
          have hfl : ∀ j, j ≠ q → (lp.setIfInBounds q true).getD j false = lp.getD j false := fun j hj => by rw [Array.getD_eq_getD_getElem?, Array.getD_eq_getD_getElem?, Array.getElem?_setIfInBounds_ne (by omega)]
          have hq : q < 7 := (List.getElem?_eq_some_iff.mp ho).1
          obtain ⟨⟨f0, -⟩, ⟨p0, p1, p2, -, -, -⟩, ⟨n0, -⟩⟩ := HC.out w' hR.bel
          match q, ho, hun, hdep, hK, hfl, hq with
          | 0, ho, hun, hdep, hK, hfl, _ =>
            obtain rfl := Option.some.inj ho
            have o1 : a'.tmps[1]? = some (.pointer (some ⟨Af, 0, none⟩)) := (hS.old 1 (by simp)).trans rfl
            have hK' := hK g w' (fun _ _ _ _ _ _ => rfl) (by rw [hfl 5 (by decide), hfl 6 (by decide)]; exact hR) (.int .i64 F) (by simp only [valO, Option.bind_some]; simp only [putAll, Act.put, List.setIfInBounds_toArray, List.set_cons_zero, List.set_cons_succ]; rfl)
            clear hS hdep hR
            refine gh_quiet6 (v := .int .i64 F) ?_ ?_
            · (simp only [execOp, Act.eval, o1]; go_simp; first | done | (simp; done) | (simp [*]; done))
            · exact hK'
          | 1, ho, hun, hdep, hK, hfl, _ =>
            obtain rfl := Option.some.inj ho
            have o2 : a'.tmps[2]? = some (.pointer (some ⟨Ap, 0, none⟩)) := (hS.old 2 (by simp)).trans rfl
            have hK' := hK g w' (fun _ _ _ _ _ _ => rfl) (by rw [hfl 5 (by decide), hfl 6 (by decide)]; exact hR) (.agg #[.int .u64 (hI px), .int .u64 (lI px), .int .i64 pl]) (by simp only [valO, Option.bind_some]; simp only [putAll, Act.put, List.setIfInBounds_toArray, List.set_cons_zero, List.set_cons_succ]; rfl)
            clear hS hdep hR
            refine gh_quiet6 (v := .agg #[.int .u64 (hI px), .int .u64 (lI px), .int .i64 pl]) ?_ ?_
            · (simp only [execOp, Act.eval, o2]; go_simp; first | done | (simp; done) | (simp [*]; done))
            · exact hK'
          | 2, ho, hun, hdep, hK, hfl, _ =>
            obtain rfl := Option.some.inj ho
            have d0 : lp.getD 0 false = true := hdep { on := 0, ground := .data } (by simp) rfl
            have e22 : a'.tmps[22]? = some (.int .i64 F) := (hS.don 0 _ 22 rfl d0 rfl).trans (by simp only [putAll, Act.put, List.setIfInBounds_toArray, List.set_cons_zero, List.set_cons_succ]; rfl)
            have d1 : lp.getD 1 false = true := hdep { on := 1, ground := .data } (by simp) rfl
            have e23 : a'.tmps[23]? = some (.agg #[.int .u64 (hI px), .int .u64 (lI px), .int .i64 pl]) := (hS.don 1 _ 23 rfl d1 rfl).trans (by simp only [putAll, Act.put, List.setIfInBounds_toArray, List.set_cons_zero, List.set_cons_succ]; rfl)
            have KE := KL w'
            clear hdep
            unfold Oper.wp
            simp only [execOp, Act.eval]
            simp [go_sem, e22, e23, Oper.upon]
            refine KE.mono ?_
            rintro e W2 ⟨rfl, hb2⟩
            exact hK g W2 (fun _ _ _ _ _ _ => rfl) (by rw [hfl 5 (by decide), hfl 6 (by decide)]; exact hR.below hb2) _ (by simp only [valO, Option.bind_some]; simp only [putAll, Act.put, List.setIfInBounds_toArray, List.set_cons_zero, List.set_cons_succ]; rfl)
          | 3, ho, hun, hdep, hK, hfl, _ =>
            obtain rfl := Option.some.inj ho
            have o3 : a'.tmps[3]? = some (.pointer (some ⟨An, 0, none⟩)) := (hS.old 3 (by simp)).trans rfl
            have hK' := hK g w' (fun _ _ _ _ _ _ => rfl) (by rw [hfl 5 (by decide), hfl 6 (by decide)]; exact hR) (.int .i64 nn) (by simp only [valO, Option.bind_some]; simp only [putAll, Act.put, List.setIfInBounds_toArray, List.set_cons_zero, List.set_cons_succ]; rfl)
            clear hS hdep hR
            refine gh_quiet6 (v := .int .i64 nn) ?_ ?_
            · (simp only [execOp, Act.eval, o3]; go_simp; first | done | (simp; done) | (simp [*]; done))
            · exact hK'
          | 4, ho, hun, hdep, hK, hfl, _ =>
            obtain rfl := Option.some.inj ho
            have d2 : lp.getD 2 false = true := hdep { on := 2, ground := .data } (by simp) rfl
            have e24 : a'.tmps[24]? = some (.agg #[.int .u64 (hI la), .int .u64 (lI la)]) := (hS.don 2 _ 24 rfl d2 rfl).trans (by simp only [putAll, Act.put, List.setIfInBounds_toArray, List.set_cons_zero, List.set_cons_succ]; rfl)
            have d3 : lp.getD 3 false = true := hdep { on := 3, ground := .data } (by simp) rfl
            have e25 : a'.tmps[25]? = some (.int .i64 nn) := (hS.don 3 _ 25 rfl d3 rfl).trans (by simp only [putAll, Act.put, List.setIfInBounds_toArray, List.set_cons_zero, List.set_cons_succ]; rfl)
            have KE := KC w'
            clear hdep
            unfold Oper.wp
            simp only [execOp, Act.eval]
            simp [go_sem, e24, e25, Oper.upon]
            refine KE.mono ?_
            rintro e W2 ⟨rfl, hb2⟩
            exact hK g W2 (fun _ _ _ _ _ _ => rfl) (by rw [hfl 5 (by decide), hfl 6 (by decide)]; exact hR.below hb2) _ (by simp only [valO, Option.bind_some]; simp only [putAll, Act.put, List.setIfInBounds_toArray, List.set_cons_zero, List.set_cons_succ]; rfl)
          | 5, ho, hun, hdep, hK, hfl, _ =>
            obtain rfl := Option.some.inj ho
            rw [hun] at hR
            have hK' := hK w'.heap.size (w'.alloc (.cells #[.int .u64 0, .int .u64 0, .int .i64 0] 26)) (fun k ok s hk hl hd => gh_same6 (d := 5) (s := s) (by simp only [putAll, Act.put, List.setIfInBounds_toArray, List.set_cons_zero, List.set_cons_succ]; rfl) (by rintro rfl; have := dstG_of (by kernel_rfl) k 5 ok _ 5 hk rfl hd rfl; subst this; rw [hun] at hl; cases hl)) (by rw [hfl 6 (by decide), getD_set_same (by rw [hsz]; decide)]; exact hR.al) (.pointer (some ⟨w'.heap.size, 0, none⟩)) (by simp only [valO, Option.bind_some]; simp only [putAll, Act.put, List.setIfInBounds_toArray, List.set_cons_zero, List.set_cons_succ]; rfl)
            clear hS hdep hR
            unfold Oper.wp
            simp only [execOp]
            go_simp
            exact hK'
          | 6, ho, hun, hdep, hK, hfl, _ =>
            obtain rfl := Option.some.inj ho
            have d4 : lp.getD 4 false = true := hdep { on := 4, ground := .data } (by simp) rfl
            have e26 : a'.tmps[26]? = some (.agg #[.int .u64 (hI cx), .int .u64 (lI cx), .int .i64 nn]) := (hS.don 4 _ 26 rfl d4 rfl).trans (by simp only [putAll, Act.put, List.setIfInBounds_toArray, List.set_cons_zero, List.set_cons_succ]; rfl)
            have d5 : lp.getD 5 false = true := hdep { on := 5, ground := .data } (by simp) rfl
            have e5 : a'.tmps[5]? = some (.pointer (some ⟨g, 0, none⟩)) := (hS.don 5 _ 5 rfl d5 rfl).trans (by simp only [putAll, Act.put, List.setIfInBounds_toArray, List.set_cons_zero, List.set_cons_succ]; rfl)
            rw [hun] at hR
            have hz := (hR.a d5).2
            simp only [Bool.false_eq_true, if_false] at hz
            obtain ⟨z0, z1, z2, k0, k1, k2⟩ := hz
            have hK' := hK g _ (fun _ _ _ _ _ _ => rfl) (by rw [hfl 5 (by decide), getD_set_same (by rw [hsz]; decide)]; exact hR.st d5) undef rfl
            clear hS hdep hR
            unfold Oper.wp
            simp [execOp, Act.eval, e26, e5, go_sem, z0, z1, z2, k0, k1, k2, Oper.upon]
            exact hK'
          | n + 7, ho, hun, hdep, hK, hfl, hq => exact absurd hq (by omega)
        case fin =>
          intro N1 V2 hR
          have hR : RL V1 cx nn true true N1 V2 := by simpa using hR
          have hz := (hR.a rfl).2
          simp only [if_true] at hz
          have HLa := hidX hz
          have HV2 := hidX hR.bel
          have HN1 := hidX (hR.a rfl).1
          simp only [putAll, Act.put, List.setIfInBounds_toArray, List.set_cons_zero, List.set_cons_succ]
          clear hR hz
          refine wl_nil6 (P := Tryd.prog) (ops := #[]) ?_
          have HC3 : Hid (∀ V, Below V2.heap.size V2 V → (V.cell? ⟨Af, 0, none⟩ = some (.int .i64 F) ∧ True) ∧ AtP V Ap px pl ∧ (V.cell? ⟨An, 0, none⟩ = some (.int .i64 nn) ∧ True) ∧ AtP V N1 cx nn) := hidX (fun V hb => by obtain ⟨a, b, c⟩ := HC.out V (keepb hb HV2.out); exact ⟨a, b, c, HLa.out.below hb⟩)
          clear HC KL KC
          go_wp2_with fail
          refine gh_region (γ := Nat) (qpOk 8 8 (by decide) (fun N => by kernel_rfl) (by kernel_rfl) (by kernel_rfl) (by kernel_rfl) (by kernel_rfl)) (by kernel_rfl) (by kernel_rfl) [some 27, some 28, some 29, some 30, some 31, some 32, some 33, some 34] (fun g => [.agg #[.int .u64 (hI px), .int .u64 (lI px), .int .i64 pl], .agg #[.int .u64 (hI px), .int .u64 (lI px)], .pointer (some ⟨N1, 0, none⟩), .agg #[.int .u64 (hI cx), .int .u64 (lI cx)], .int .i64 nn, .int .i64 (nn - 1), .agg #[.int .u64 (hI st), .int .u64 (lI st)], .func (.func 48) #[] #[.pointer (some ⟨g, 0, none⟩), .pointer (some ⟨g + 1, 0, none⟩), .pointer (some ⟨g + 2, 0, none⟩)]]) (by kernel_rfl) (by simp) (fun lp g V => RI V2 px cx st (lp.getD 7 false) g V) 0 ⟨below_drewN (Below.refl _ _) 1, fun h => (by simp at h)⟩ ?step ?fin
          case step =>
            intro q o lp g w' a' ho hsz hun hdep hR hS K Q' hK
            have hfl : ∀ j, j ≠ q → (lp.setIfInBounds q true).getD j false = lp.getD j false := fun j hj => by rw [Array.getD_eq_getD_getElem?, Array.getD_eq_getD_getElem?, Array.getElem?_setIfInBounds_ne (by omega)]
            have hq : q < 8 := (List.getElem?_eq_some_iff.mp ho).1
            match q, ho, hun, hdep, hK, hfl, hq with
            | 0, ho, hun, hdep, hK, hfl, _ =>
              obtain rfl := Option.some.inj ho
              obtain ⟨⟨f0, -⟩, ⟨p0, p1, p2, -, -, -⟩, ⟨n0, -⟩, ⟨l0, l1, l2, -, -, -⟩⟩ := HC3.out w' hR.bel
              have o2 : a'.tmps[2]? = some (.pointer (some ⟨Ap, 0, none⟩)) := (hS.old 2 (by simp)).trans rfl
              have hK' := hK g w' (fun _ _ _ _ _ _ => rfl) (by rw [hfl 7 (by decide)]; exact hR) (.agg #[.int .u64 (hI px), .int .u64 (lI px), .int .i64 pl]) (by simp only [valO, Option.bind_some]; simp only [putAll, Act.put, List.setIfInBounds_toArray, List.set_cons_zero, List.set_cons_succ]; rfl)
              clear hS hdep hR
              refine gh_quiet6 (v := .agg #[.int .u64 (hI px), .int .u64 (lI px), .int .i64 pl]) ?_ ?_
              · (simp only [execOp, Act.eval, o2]; go_simp; first | done | (simp; done) | (simp [*]; done))
              · exact hK'
            | 1, ho, hun, hdep, hK, hfl, _ =>
              obtain rfl := Option.some.inj ho
              obtain ⟨⟨f0, -⟩, ⟨p0, p1, p2, -, -, -⟩, ⟨n0, -⟩, ⟨l0, l1, l2, -, -, -⟩⟩ := HC3.out w' hR.bel
              have d0 : lp.getD 0 false = true := hdep { on := 0, ground := .data } (by simp) rfl
              have e27 : a'.tmps[27]? = some (.agg #[.int .u64 (hI px), .int .u64 (lI px), .int .i64 pl]) := (hS.don 0 _ 27 rfl d0 rfl).trans (by simp only [putAll, Act.put, List.setIfInBounds_toArray, List.set_cons_zero, List.set_cons_succ]; rfl)
              have KE := KF w'
              clear hdep
              unfold Oper.wp
              simp only [execOp, Act.eval]
              simp [go_sem, e27, Oper.upon]
              refine KE.mono ?_
              rintro e W2 ⟨rfl, hb2⟩
              exact hK g W2 (fun _ _ _ _ _ _ => rfl) (by rw [hfl 7 (by decide)]; exact hR.below hb2) _ (by simp only [valO, Option.bind_some]; simp only [putAll, Act.put, List.setIfInBounds_toArray, List.set_cons_zero, List.set_cons_succ]; rfl)
            | 2, ho, hun, hdep, hK, hfl, _ =>
              obtain rfl := Option.some.inj ho
              obtain ⟨⟨f0, -⟩, ⟨p0, p1, p2, -, -, -⟩, ⟨n0, -⟩, ⟨l0, l1, l2, -, -, -⟩⟩ := HC3.out w' hR.bel
              have o5 : a'.tmps[5]? = some (.pointer (some ⟨N1, 0, none⟩)) := (hS.old 5 (by simp)).trans rfl
              have hK' := hK g w' (fun _ _ _ _ _ _ => rfl) (by rw [hfl 7 (by decide)]; exact hR) (.pointer (some ⟨N1, 0, none⟩)) (by simp only [valO, Option.bind_some]; simp only [putAll, Act.put, List.setIfInBounds_toArray, List.set_cons_zero, List.set_cons_succ]; rfl)
              clear hS hdep hR
              refine gh_quiet6 (v := .pointer (some ⟨N1, 0, none⟩)) ?_ ?_
              · (simp only [execOp, Act.eval, o5]; go_simp; first | done | (simp; done) | (simp [*]; done))
              · exact hK'
            | 3, ho, hun, hdep, hK, hfl, _ =>
              obtain rfl := Option.some.inj ho
              obtain ⟨⟨f0, -⟩, ⟨p0, p1, p2, -, -, -⟩, ⟨n0, -⟩, ⟨l0, l1, l2, -, -, -⟩⟩ := HC3.out w' hR.bel
              have d2 : lp.getD 2 false = true := hdep { on := 2, ground := .data } (by simp) rfl
              have e29 : a'.tmps[29]? = some (.pointer (some ⟨N1, 0, none⟩)) := (hS.don 2 _ 29 rfl d2 rfl).trans (by simp only [putAll, Act.put, List.setIfInBounds_toArray, List.set_cons_zero, List.set_cons_succ]; rfl)
              have hK' := hK g w' (fun _ _ _ _ _ _ => rfl) (by rw [hfl 7 (by decide)]; exact hR) (.agg #[.int .u64 (hI cx), .int .u64 (lI cx)]) (by simp only [valO, Option.bind_some]; simp only [putAll, Act.put, List.setIfInBounds_toArray, List.set_cons_zero, List.set_cons_succ]; rfl)
              clear hS hdep hR
              refine gh_quiet6 (v := .agg #[.int .u64 (hI cx), .int .u64 (lI cx)]) ?_ ?_
              · (simp only [execOp, Act.eval, e29]; go_simp; first | done | (simp; done) | (simp [*]; done))
              · exact hK'
            | 4, ho, hun, hdep, hK, hfl, _ =>
              obtain rfl := Option.some.inj ho
              obtain ⟨⟨f0, -⟩, ⟨p0, p1, p2, -, -, -⟩, ⟨n0, -⟩, ⟨l0, l1, l2, -, -, -⟩⟩ := HC3.out w' hR.bel
              have o3 : a'.tmps[3]? = some (.pointer (some ⟨An, 0, none⟩)) := (hS.old 3 (by simp)).trans rfl
              have hK' := hK g w' (fun _ _ _ _ _ _ => rfl) (by rw [hfl 7 (by decide)]; exact hR) (.int .i64 nn) (by simp only [valO, Option.bind_some]; simp only [putAll, Act.put, List.setIfInBounds_toArray, List.set_cons_zero, List.set_cons_succ]; rfl)
              clear hS hdep hR
              refine gh_quiet6 (v := .int .i64 nn) ?_ ?_
              · (simp only [execOp, Act.eval, o3]; go_simp; first | done | (simp; done) | (simp [*]; done))
              · exact hK'
            | 5, ho, hun, hdep, hK, hfl, _ =>
              obtain rfl := Option.some.inj ho
              obtain ⟨⟨f0, -⟩, ⟨p0, p1, p2, -, -, -⟩, ⟨n0, -⟩, ⟨l0, l1, l2, -, -, -⟩⟩ := HC3.out w' hR.bel
              have d4 : lp.getD 4 false = true := hdep { on := 4, ground := .data } (by simp) rfl
              have e31 : a'.tmps[31]? = some (.int .i64 nn) := (hS.don 4 _ 31 rfl d4 rfl).trans (by simp only [putAll, Act.put, List.setIfInBounds_toArray, List.set_cons_zero, List.set_cons_succ]; rfl)
              have hK' := hK g w' (fun _ _ _ _ _ _ => rfl) (by rw [hfl 7 (by decide)]; exact hR) (.int .i64 (nn - 1)) (by simp only [valO, Option.bind_some]; simp only [putAll, Act.put, List.setIfInBounds_toArray, List.set_cons_zero, List.set_cons_succ]; rfl)
              clear hS hdep hR
              refine gh_quiet6 (v := .int .i64 (nn - 1)) ?_ ?_
              · (simp only [execOp, Act.eval, e31]; go_simp; first | done | (simp; done) | (simp [*]; done))
              · exact hK'
            | 6, ho, hun, hdep, hK, hfl, _ =>
              obtain rfl := Option.some.inj ho
              obtain ⟨⟨f0, -⟩, ⟨p0, p1, p2, -, -, -⟩, ⟨n0, -⟩, ⟨l0, l1, l2, -, -, -⟩⟩ := HC3.out w' hR.bel
              have d5 : lp.getD 5 false = true := hdep { on := 5, ground := .data } (by simp) rfl
              have e32 : a'.tmps[32]? = some (.int .i64 (nn - 1)) := (hS.don 5 _ 32 rfl d5 rfl).trans (by simp only [putAll, Act.put, List.setIfInBounds_toArray, List.set_cons_zero, List.set_cons_succ]; rfl)
              have KE := KB w'
              clear hdep
              unfold Oper.wp
              simp only [execOp, Act.eval]
              simp [go_sem, e32, Oper.upon]
              refine KE.mono ?_
              rintro e W2 ⟨rfl, hb2⟩
              exact hK g W2 (fun _ _ _ _ _ _ => rfl) (by rw [hfl 7 (by decide)]; exact hR.below hb2) _ (by simp only [valO, Option.bind_some]; simp only [putAll, Act.put, List.setIfInBounds_toArray, List.set_cons_zero, List.set_cons_succ]; rfl)
            | 7, ho, hun, hdep, hK, hfl, _ =>
              obtain rfl := Option.some.inj ho
              have d1 : lp.getD 1 false = true := hdep { on := 1, ground := .data } (by simp) rfl
              have e28 : a'.tmps[28]? = some (.agg #[.int .u64 (hI px), .int .u64 (lI px)]) := (hS.don 1 _ 28 rfl d1 rfl).trans (by simp only [putAll, Act.put, List.setIfInBounds_toArray, List.set_cons_zero, List.set_cons_succ]; rfl)
              have d3 : lp.getD 3 false = true := hdep { on := 3, ground := .data } (by simp) rfl
              have e30 : a'.tmps[30]? = some (.agg #[.int .u64 (hI cx), .int .u64 (lI cx)]) := (hS.don 3 _ 30 rfl d3 rfl).trans (by simp only [putAll, Act.put, List.setIfInBounds_toArray, List.set_cons_zero, List.set_cons_succ]; rfl)
              have d6 : lp.getD 6 false = true := hdep { on := 6, ground := .data } (by simp) rfl
              have e33 : a'.tmps[33]? = some (.agg #[.int .u64 (hI st), .int .u64 (lI st)]) := (hS.don 6 _ 33 rfl d6 rfl).trans (by simp only [putAll, Act.put, List.setIfInBounds_toArray, List.set_cons_zero, List.set_cons_succ]; rfl)
              have KE := KR w'
              clear hdep
              unfold Oper.wp
              simp only [execOp, Act.eval]
              simp [go_sem, e28, e30, e33, Oper.upon]
              refine KE.mono ?_
              rintro e W2 ⟨rfl, hw2⟩
              exact hK w'.heap.size W2 (fun k ok s hk hl hd => gh_same6 (d := 34) (s := s) (by simp only [putAll, Act.put, List.setIfInBounds_toArray, List.set_cons_zero, List.set_cons_succ]; rfl) (by rintro rfl; have := dstG_of (by kernel_rfl) k 7 ok _ 34 hk rfl hd rfl; subst this; rw [hun] at hl; cases hl)) (by rw [getD_set_same (by rw [hsz]; decide)]; exact hR.made hw2) _ (by simp only [valO, Option.bind_some]; simp only [putAll, Act.put, List.setIfInBounds_toArray, List.set_cons_zero, List.set_cons_succ]; rfl)
            | n + 8, ho, hun, hdep, hK, hfl, hq => exact absurd hq (by omega)
          case fin =>
            intro N2 V3 hR
            obtain ⟨hN2, r1, r2, r3⟩ := hR.r (by simp)
            have HR3 := hidX (And.intro r1 (And.intro r2 r3))
            have HN2 := hidX hN2
            have HV3 := hidX hR.bel
            simp only [putAll, Act.put, List.setIfInBounds_toArray, List.set_cons_zero, List.set_cons_succ]
            clear hR hN2 r1 r2 r3
            refine wl_nil6 (P := Tryd.prog) (ops := #[]) ?_
            clear HC3 KF KB KR f0 p0 p1 p2 n0
            have HVV : Hid (Below V1.heap.size V1 V3) := hidX (keepb HV3.out HV2.out)
            have HM3 := hidX (HM1.out.kw (kw_below HVV.out))
            have HY3 := hidX (keepc HVV.out HY1.out)
            have HJ3 := hidX (HJ.out [] _ _ none HJ1.out (below_grownX HVV.out) (fun r e => by cases e))
            have hWV : W.heap.size < V3.heap.size := cell_in HY3.out
            have hN2 : W.heap.size ≤ N2 ∧ N2 + 2 < V3.heap.size := by
              have h1 := HN2.out
              have h2 := HB1.out.size
              have h3 := HV2.out.size
              have h4 := HR3.out.2.2.2.2.2.2
              exact ⟨by omega, h4⟩
            have HRM : Hid (RsM (fun z => W.heap.size ≤ z ∧ z < V3.heap.size) (V3.heap.size + 2) N2 (N2 + 1) (N2 + 2) px cx st V3) := hidX ⟨HR3.out.1, HR3.out.2.1, HR3.out.2.2, .inl ⟨hN2.1, by omega⟩, .inl ⟨by omega, by omega⟩, .inl ⟨by omega, hN2.2⟩⟩
            clear HV2 HV3 HN1 HN2 HLa HR3 HVV HM1 HY1 HJ1 HB1
            go_wp2_with fail
            refine (wpIn_wide (n := 7)).1 ?_
            refine rangeX 7 (by decide) (gf := 48) (lb := #[.pointer (some ⟨N2, 0, none⟩), .pointer (some ⟨N2 + 1, 0, none⟩), .pointer (some ⟨N2 + 2, 0, none⟩)]) rfl (enters_of Tryd.func48 (by kernel_rfl) rfl)
              (rising1_any (7 - 1) N (fun z => W.heap.size ≤ z ∧ z < V3.heap.size) (V3.heap.size + 2) N2 (N2 + 1) (N2 + 2) px cx st HRS.out V3 HRM.out) (Nat.le_refl _) (fun h k => h.trans k) (fun V o o' h1 h2 => kw_put (by rintro ⟨_, q⟩; omega) (by omega) V o o' h1 h2) (Below.refl _ _) (fun _ => rfl)
              (fun pre V => J (pre.map (fun w => (w, nn))) V ∧ V.cell? ⟨W.heap.size, 0, none⟩ = some (.func (.yield l) #[] #[]) ∧ V.cell? ⟨An, 0, none⟩ = some (.int .i64 nn) ∧ V3.heap.size ≤ V.heap.size)
              (fun c pre V => c = .ret ∧ Jx (pre.map (fun w => (w, nn))) V)
              (fun s A B row hs hg hr => ⟨HJ.out _ A B row hs.1 hg (fun r e => ⟨by have := (hr r e).1; omega, (hr r e).2⟩), cell_kept hs.2.1 hg (fun r e => (hr r e).2), cell_kept hs.2.2.1 hg (fun r e => (hr r e).2), Nat.le_trans hs.2.2.2 hg.size⟩)
              (fun c s A B row hs hg hr => ⟨hs.1, HJX.out _ A B row hs.2 hg (fun r e => ⟨by have := (hr r e).1; omega, (hr r e).2⟩)⟩)
              ⟨HJ3.out, HY3.out, HM3.out.n, Nat.le_refl _⟩
              (fun x a' V => ∃ Bx, (V.cell? ⟨Bx, 0, none⟩ = some (.int .u64 (hI x)) ∧ V.cell? ⟨Bx, 1, none⟩ = some (.int .u64 (lI x))) ∧ a' = { tmps := #[.func (.yield l) #[] #[], .pointer (some ⟨Af, 0, none⟩), .pointer (some ⟨Ap, 0, none⟩), .pointer (some ⟨An, 0, none⟩), .pointer (some ⟨W.heap.size, 0, none⟩), .pointer (some ⟨N1, 0, none⟩), .pointer (some ⟨Bx, 0, none⟩), .int .i64 F, .agg #[.int .u64 (hI px), .int .u64 (lI px), .int .i64 pl], .int .i64 0, .bool false, .bool false, .int .i64 nn, .pointer (some ⟨Ap, 2, none⟩), .int .i64 pl, .bool false, .bool false, .bool false, .int .i64 nn, .int .i64 F, .bool false, .bool false, .int .i64 F, .agg #[.int .u64 (hI px), .int .u64 (lI px), .int .i64 pl], .agg #[.int .u64 (hI la), .int .u64 (lI la)], .int .i64 nn, .agg #[.int .u64 (hI cx), .int .u64 (lI cx), .int .i64 nn], .agg #[.int .u64 (hI px), .int .u64 (lI px), .int .i64 pl], .agg #[.int .u64 (hI px), .int .u64 (lI px)], .pointer (some ⟨N1, 0, none⟩), .agg #[.int .u64 (hI cx), .int .u64 (lI cx)], .int .i64 nn, .int .i64 (nn - 1), .agg #[.int .u64 (hI st), .int .u64 (lI st)], .func (.func 48) #[] #[.pointer (some ⟨N2, 0, none⟩), .pointer (some ⟨N2 + 1, 0, none⟩), .pointer (some ⟨N2 + 2, 0, none⟩)], .agg #[.int .u64 (hI x), .int .u64 (lI x)], undef, undef, undef, undef, undef, undef], defers := [] })
              (fun x a' s A B row hs hg hr => by
                obtain ⟨Bx, ⟨k0, k1⟩, h3⟩ := hs
                have hr' : ∀ r, row = some r → ∃ o : Obj, A.heap[r]? = some o ∧ o.isCells = false := fun r e => (hr r e).2
                exact ⟨Bx, ⟨cell_kept k0 hg hr', cell_kept k1 hg hr'⟩, h3⟩) ?assign ?body ?done ?stop
            case assign =>
              rintro lo pre x V K ⟨hi1, hi2, hi3, hi4⟩ hK
              have bq := bl1 V (.cells #[.int .u64 (hI x), .int .u64 (lI x)] 24)
              have hA := at_new V V.heap.size x 24 rfl
              have HK := hidX (hK ({ tmps := #[.func (.yield l) #[] #[], .pointer (some ⟨Af, 0, none⟩), .pointer (some ⟨Ap, 0, none⟩), .pointer (some ⟨An, 0, none⟩), .pointer (some ⟨W.heap.size, 0, none⟩), .pointer (some ⟨N1, 0, none⟩), .pointer (some ⟨V.heap.size, 0, none⟩), .int .i64 F, .agg #[.int .u64 (hI px), .int .u64 (lI px), .int .i64 pl], .int .i64 0, .bool false, .bool false, .int .i64 nn, .pointer (some ⟨Ap, 2, none⟩), .int .i64 pl, .bool false, .bool false, .bool false, .int .i64 nn, .int .i64 F, .bool false, .bool false, .int .i64 F, .agg #[.int .u64 (hI px), .int .u64 (lI px), .int .i64 pl], .agg #[.int .u64 (hI la), .int .u64 (lI la)], .int .i64 nn, .agg #[.int .u64 (hI cx), .int .u64 (lI cx), .int .i64 nn], .agg #[.int .u64 (hI px), .int .u64 (lI px), .int .i64 pl], .agg #[.int .u64 (hI px), .int .u64 (lI px)], .pointer (some ⟨N1, 0, none⟩), .agg #[.int .u64 (hI cx), .int .u64 (lI cx)], .int .i64 nn, .int .i64 (nn - 1), .agg #[.int .u64 (hI st), .int .u64 (lI st)], .func (.func 48) #[] #[.pointer (some ⟨N2, 0, none⟩), .pointer (some ⟨N2 + 1, 0, none⟩), .pointer (some ⟨N2 + 2, 0, none⟩)], .agg #[.int .u64 (hI x), .int .u64 (lI x)], undef, undef, undef, undef, undef, undef], defers := [] }) (V.alloc (.cells #[.int .u64 (hI x), .int .u64 (lI x)] 24)) ((KeepsOthers.alloc _ _).from _) (kw_below bq) ⟨HJ.out _ _ _ none hi1 (below_grownX bq) (fun r e => by cases e), keepc bq hi2, keepc bq hi3, Nat.le_trans hi4 bq.size⟩ ⟨V.heap.size, ⟨hA.1, hA.2.1⟩, rfl⟩)
              clear hK bq hA hi1
              unfold encW
              simp only [List.zip_toArray, List.zip_cons_cons, List.zip_nil_left, List.zip_nil_right, List.foldl_toArray, List.foldl_cons, List.foldl_nil, List.setIfInBounds_toArray, List.set_cons_zero, List.set_cons_succ, Array.zip]
              gi_wp2
              exact HK.out
            case body =>
              rintro lo pre x a' V hl ⟨r, hr⟩ ⟨hi1, hi2, hi3, hi4⟩ ⟨Bx, ⟨k0, k1⟩, rfl⟩ hlt
              obtain ⟨fn, tmps, assign, body, hy, hR⟩ := HY.out (pre.map (fun w => (w, nn))) (x, nn) V hi1 (by have := List.IsPrefix.map (fun w => (w, nn)) hlt; rw [List.map_append] at this; rw [HSP.out]; exact this)
              dsimp only [encP] at hy
              have hR2 : RoundIn (Fence.wide.inRound lo) (7 - 1 - 1 - 1) Tryd.prog l fn tmps assign body V _ := RoundIn.wide6 hR
              have HI2 := hidX (And.intro hi2 (And.intro hi3 hi4))
              clear hR hi1
              gi_wp2_with fail
              refine hR2.mono ?_
              rintro e V4 (⟨rfl, hJ4, hk4⟩ | ⟨rfl, hx4, hk4⟩)
              · have hBW := HB.out
                have HI4 : Hid (J ((pre ++ [x]).map (fun w => (w, nn))) V4 ∧ V4.cell? ⟨W.heap.size, 0, none⟩ = some (.func (.yield l) #[] #[]) ∧ V4.cell? ⟨An, 0, none⟩ = some (.int .i64 nn) ∧ V3.heap.size ≤ V4.heap.size) := hidX ⟨by rw [List.map_append]; exact hJ4, kw_cell hk4 (.inr hBW) HI2.out.1, kw_cell hk4 HM3.out.zn HI2.out.2.1, Nat.le_trans HI2.out.2.2 hk4.1⟩
                have HK4 : Hid (KeepsFrom V3.heap.size V V4 ∧ KW (fun z => W.heap.size ≤ z ∧ z < V3.heap.size) (V3.heap.size + 2) V V4) := hidX ⟨kw_from hk4 (by omega), kw_sub hk4 (fun z hz => .inr (by rcases hz with q | q <;> omega))⟩
                clear hJ4 hk4 hy hR2 k0 k1 HI2
                gi_wp2
                exact ⟨HK4.out.1, HK4.out.2, HI4.out⟩
              · have HX4 : Hid (Jx ((pre ++ [x]).map (fun w => (w, nn))) V4) := hidX (by rw [List.map_append]; exact hx4)
                have hBW := HB.out
                have HK4 : Hid (KeepsFrom V3.heap.size V V4 ∧ KW (fun z => W.heap.size ≤ z ∧ z < V3.heap.size) (V3.heap.size + 2) V V4) := hidX ⟨kw_from hk4 (by omega), kw_sub hk4 (fun z hz => .inr (by rcases hz with q | q <;> omega))⟩
                clear hx4 hy hR2 k0 k1 HI2 hk4
                gi_wp2
                exact ⟨HK4.out.1, HK4.out.2, rfl, HX4.out⟩
            case done =>
              rintro D ys V hD rfl ⟨hi1, hi2, hi3, hi4⟩ hK
              have HI1 := hidX hi1
              clear hi1
              refine wl_nil6 (P := Tryd.prog) (ops := #[]) ?_
              go_wp2
              refine ⟨by simp, .inl ⟨_, _, rfl, run_takeDeferred hK, ?_⟩⟩
              refine ⟨_, results_none rfl _ _ _, ⟨_, rfl⟩, .inl ⟨_, HSP.out.symm, ?_⟩⟩
              exact HJ.out.putObj _ HI1.out (by omega) hK rfl
            case stop =>
              rintro D c pre V hD hpre ⟨rfl, hi⟩ hK
              refine (wpIn_wide (n := 7)).2 ?_
              go_wp2
              refine ⟨by simp, .inl ⟨_, _, rfl, run_takeDeferred hK, ?_⟩⟩
              refine ⟨_, results_none rfl _ _ _, ⟨_, rfl⟩, .inr ⟨pre.map (fun w => (w, nn)), ?_, ?_⟩⟩
              · rw [HSP.out]; exact List.IsPrefix.map _ hpre
              · exact HJX.out.putObj _ hi (by omega) hK rfl
  · have d1 : (checkE F px pl != 0) = true := by simpa using c1
    have HE : Hid (spL F px pl nn = []) := hidX (by rw [spL, if_neg (fun h => c1 h.1)])
    clear c1
    revert d1
    generalize checkE F px pl = z
    intro d1
    go_wp2
    exact ⟨_, results_none rfl _ _ _, HNil.out _ HE.out HJ1.out⟩
end Go.Proofs.YtdgmfdfhbhmppaaDoor
