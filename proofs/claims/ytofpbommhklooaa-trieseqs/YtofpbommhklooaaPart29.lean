/-
  Part 29 of the proof: 5 texts, one behind the other.
-/
import Derived.Test.YtofpbommhklooaaPart28
import Derived.Test.YtofpbommhklooaaPart21
import Derived.Test.YtofpbommhklooaaPart10
import Derived.Test.YtofpbommhklooaaPart9
import Derived.Test.YtofpbommhklooaaPart11
import Derived.Test.YtofpbommhklooaaPart14
/-
  Plain facts on a prefix's kids.
-/
namespace Go.Proofs.Ytofpbommhklooaa
open Go.RowKit
set_option linter.unusedSimpArgs false
set_option linter.unusedVariables false

theorem bit1_nat (n : Int) (h0 : 0 ≤ n) (h1 : n ≤ 127) : (bit1 n).toNat = 2 ^ (127 - n.toNat) := by
  unfold bit1
  rw [BitVec.toNat_ushiftRight, Nat.shiftRight_eq_div_pow, show (maskW 1).toNat = 2 ^ 127 by decide +kernel]
  rw [show (2 : Nat) ^ 127 = 2 ^ (127 - n.toNat) * 2 ^ n.toNat by rw [← Nat.pow_add]; congr 1; omega, Nat.mul_div_cancel _ (Nat.two_pow_pos _)]
theorem rt_room (F : Int) (x : BitVec 128) (n : Int) (h : Rt F x n) (hF : F ≤ 128) : x.toNat + 2 ^ (128 - n.toNat) ≤ 2 ^ 128 := by
  obtain ⟨h0, h1, h2⟩ := h
  obtain ⟨q, hq⟩ := (cut_dvd x n).mp h2
  have xl := x.isLt
  have e : (2 : Nat) ^ 128 = 2 ^ (128 - n.toNat) * 2 ^ n.toNat := by rw [← Nat.pow_add]; congr 1; omega
  rw [hq, e] at xl ⊢
  have := Nat.lt_of_mul_lt_mul_left xl
  calc 2 ^ (128 - n.toNat) * q + 2 ^ (128 - n.toNat) = 2 ^ (128 - n.toNat) * (q + 1) := by rw [Nat.mul_add, Nat.mul_one]
    _ ≤ _ := Nat.mul_le_mul_left _ this
theorem kid_and (F : Int) (x : BitVec 128) (n : Int) (h : Rt F x n) (hn : n < F) (hF : F ≤ 128) : x &&& bit1 n = 0#128 := by
  apply BitVec.eq_of_getLsbD_eq
  intro j hj
  rw [BitVec.getLsbD_and, bit1_bit n h.1 j hj, BitVec.getLsbD_zero]
  by_cases c : (j : Int) = 127 - n
  · rw [rt_bit F x n h j hj (by omega)]; rfl
  · simp [c]
theorem kid_nat (F : Int) (x : BitVec 128) (n : Int) (h : Rt F x n) (hn : n < F) (hF : F ≤ 128) : (x ||| bit1 n).toNat = x.toNat + 2 ^ (127 - n.toNat) := by
  have r := rt_room F x n h hF
  have h0 := h.1
  rw [← BitVec.add_eq_or_of_and_eq_zero _ _ (kid_and F x n h hn hF), BitVec.toNat_add, bit1_nat n h0 (by omega)]
  apply Nat.mod_eq_of_lt
  have : 2 ^ (128 - n.toNat) = 2 ^ (127 - n.toNat) + 2 ^ (127 - n.toNat) := by
    rw [show 128 - n.toNat = (127 - n.toNat) + 1 by omega, Nat.pow_succ]; omega
  have := Nat.two_pow_pos (127 - n.toNat)
  omega
theorem kid_pow (n : Int) (h0 : 0 ≤ n) (h1 : n < 128) : 2 ^ (128 - n.toNat) = 2 ^ (127 - n.toNat) + 2 ^ (127 - n.toNat) ∧ 128 - (n + 1).toNat = 127 - n.toNat := by
  refine ⟨?_, by omega⟩
  rw [show 128 - n.toNat = (127 - n.toNat) + 1 by omega, Nat.pow_succ]; omega
theorem kid_rtL (F : Int) (x : BitVec 128) (n : Int) (h : Rt F x n) (hn : n < F) (hF : F ≤ 128) : Rt F x (n + 1) := by
  obtain ⟨h0, h1, h2⟩ := h
  refine ⟨by omega, by omega, (cut_dvd _ _).mpr ?_⟩
  exact Nat.dvd_trans (Nat.pow_dvd_pow 2 (by omega)) ((cut_dvd x n).mp h2)
theorem kid_rtH (F : Int) (x : BitVec 128) (n : Int) (h : Rt F x n) (hn : n < F) (hF : F ≤ 128) : Rt F (x ||| bit1 n) (n + 1) := by
  have h0 := h.1
  refine ⟨by omega, by omega, (cut_dvd _ _).mpr ?_⟩
  rw [kid_nat F x n h hn hF, (kid_pow n h0 (by omega)).2]
  exact Nat.dvd_add (Nat.dvd_trans (Nat.pow_dvd_pow 2 (by omega)) ((cut_dvd x n).mp h.2.2)) (Nat.dvd_refl _)
theorem kid_last (F : Int) (x : BitVec 128) (n : Int) (h : Rt F x n) (hn : n < F) (hF : F ≤ 128) : lastW F (x ||| bit1 n) (n + 1) = lastW F x n := by
  have h0 := h.1
  have a := last_nat F _ _ (kid_rtH F x n h hn hF) hF
  have b := last_nat F _ _ h hF
  have k := kid_nat F x n h hn hF
  have p := kid_pow n h0 (by omega)
  rw [p.2] at a
  exact BitVec.eq_of_toNat_eq (by omega)
theorem kid_next (F : Int) (x : BitVec 128) (n : Int) (h : Rt F x n) (hn : n < F) (hf : fam F = true) : overB (lastW F x (n + 1)) (putW 0#128 (F - 1) 1) = false ∧ lastW F x (n + 1) + putW 0#128 (F - 1) 1 = x ||| bit1 n := by
  have hF := (fam_bd F hf).2
  have h0 := h.1
  have a := last_nat F _ _ (kid_rtL F x n h hn hF) hF
  have k := kid_nat F x n h hn hF
  have p := kid_pow n h0 (by omega)
  rw [p.2] at a
  have s := step_nat F hf
  have yl := (x ||| bit1 n).isLt
  rw [put_step F hf]
  constructor
  · unfold overB
    rw [s]
    simp
    omega
  · apply BitVec.eq_of_toNat_eq
    rw [BitVec.toNat_add, s, Nat.mod_eq_of_lt (by omega)]
    omega
theorem kid_upL (F : Int) (x : BitVec 128) (n : Int) (h : Rt F x n) : parentV x (n + 1) = x ∧ parentN (n + 1) = n := by
  have h0 := h.1
  unfold parentV parentN
  rw [if_neg (by omega), if_neg (by omega), show n + 1 - 1 = n by omega]
  exact ⟨h.2.2, rfl⟩
theorem kid_upH (F : Int) (x : BitVec 128) (n : Int) (h : Rt F x n) (hn : n < F) (hF : F ≤ 128) : parentV (x ||| bit1 n) (n + 1) = x := by
  have h0 := h.1
  unfold parentV
  rw [if_neg (by omega), show n + 1 - 1 = n by omega]
  have k := kid_nat F x n h hn hF
  have p := kid_pow n h0 (by omega)
  have pp := Nat.two_pow_pos (127 - n.toNat)
  obtain ⟨q, hq⟩ := (cut_dvd x n).mp h.2.2
  apply BitVec.eq_of_toNat_eq
  rw [cut_nat, k, hq, Nat.add_comm, Nat.add_mul_div_left _ _ (Nat.two_pow_pos _), Nat.div_eq_of_lt (by omega), Nat.zero_add, Nat.mul_comm]
theorem kid_sibL (F : Int) (x : BitVec 128) (n : Int) (h : Rt F x n) (hn : n < F) (hF : F ≤ 128) : sibV x (n + 1) = x ||| bit1 n ∧ sibN (n + 1) = n + 1 := by
  have h0 := h.1
  unfold sibV sibN
  rw [if_neg (by omega), if_neg (by omega), show n + 1 - 1 = n by omega]
  refine ⟨?_, rfl⟩
  apply BitVec.eq_of_getLsbD_eq
  intro j hj
  have := congrArg (fun z => z.getLsbD j) (kid_and F x n h hn hF)
  simp only [BitVec.getLsbD_and, BitVec.getLsbD_zero] at this
  rw [BitVec.getLsbD_xor, BitVec.getLsbD_or]
  revert this
  cases x.getLsbD j <;> cases (bit1 n).getLsbD j <;> simp
theorem kid_sibH (F : Int) (x : BitVec 128) (n : Int) (h : Rt F x n) (hn : n < F) (hF : F ≤ 128) : sibV (x ||| bit1 n) (n + 1) = x := by
  have h0 := h.1
  unfold sibV
  rw [if_neg (by omega), show n + 1 - 1 = n by omega]
  apply BitVec.eq_of_getLsbD_eq
  intro j hj
  have := congrArg (fun z => z.getLsbD j) (kid_and F x n h hn hF)
  simp only [BitVec.getLsbD_and, BitVec.getLsbD_zero] at this
  rw [BitVec.getLsbD_xor, BitVec.getLsbD_or]
  revert this
  cases x.getLsbD j <;> cases (bit1 n).getLsbD j <;> simp
theorem kid_cmpL (F : Int) (x : BitVec 128) (n : Int) : pcmpZ x n x (n + 1) = -1 := by
  rcases pcmp_ways x n x (n + 1) with ⟨h, e⟩ | ⟨h, e⟩ | ⟨h, e⟩
  · exact e
  · have := h.2; omega
  · rcases h with h | ⟨_, h⟩ <;> omega
theorem kid_cmpH (F : Int) (x : BitVec 128) (n : Int) (h : Rt F x n) (hn : n < F) (hF : F ≤ 128) : pcmpZ x (n + 1) (x ||| bit1 n) (n + 1) = -1 := by
  have k := kid_nat F x n h hn hF
  have pp := Nat.two_pow_pos (127 - n.toNat)
  rcases pcmp_ways x (n + 1) (x ||| bit1 n) (n + 1) with ⟨h, e⟩ | ⟨h, e⟩ | ⟨h, e⟩
  · exact e
  · have := congrArg BitVec.toNat h.1; omega
  · rcases h with h | ⟨_, h⟩ <;> omega
end Go.Proofs.Ytofpbommhklooaa
/-
  What the sequence of package prefix's Split tells.
-/
namespace Go.Proofs.Ytofpbommhklooaa
open Go.RowKit Go.Shelf
set_option linter.unusedSimpArgs false
set_option linter.unusedVariables false
attribute [local go_sem] Oper.semAt_some

theorem wl_nil6 {P : Program} {ops : Array Oper} {Q : Exit → Act → World → Prop} {a : Act} {w : World} (h : wpList P ops Q [] a w) : Q .normal a w := h
theorem gh_quiet6 {P : Program} {o : Oper} {a' : Act} {w' : World} {K : Act → World → Prop} {Q' : Exit → Act → World → Prop} {v : Value} (hr : (execOp a'.eval o).run P w' = .ok (.value v) w') (hK : K (a'.put o.dst v) w') : o.wp P a' w' K Q' := by
  unfold Oper.wp
  rw [hr]
  exact hK
theorem gh_same6 {x y : Array Value} {d s : Nat} (h : x.toList.eraseIdx d = y.toList.eraseIdx d) (hs : s ≠ d) : x[s]? = y[s]? := by
  have := erase_get x.toList y.toList d s h hs
  simpa using this
theorem Slt.old {l : List Oper} {a A : Act} {lp : Array Bool} {a' : Act} (h : Slt l a A lp a') (s : Nat) (hs : ∀ o ∈ l, o.dst ≠ some s) : a'.tmps[s]? = a.tmps[s]? := h.oth s (fun k o hk _ => hs o (List.mem_of_getElem? hk))
theorem AtP.set6 {W : World} {B : Nat} {px : BitVec 128} {pn : Int} (k : AtP W B px pn) (z : BitVec 128) (n : Int) : AtP (((W.setCell ⟨B, 0, none⟩ (.int .u64 (hI z))).setCell ⟨B, 1, none⟩ (.int .u64 (lI z))).setCell ⟨B, 2, none⟩ (.int .i64 n)) B z n := by
  obtain ⟨c0, c1, c2, f0, f1, f2⟩ := k
  refine ⟨?_, ?_, ?_, ?_, ?_, ?_⟩ <;> simp [go_sem, *]
theorem AtP.lt6 {W : World} {B : Nat} {x : BitVec 128} {n : Int} (k : AtP W B x n) : B < W.heap.size := cell_in k.1
/-- What is known while the last one is laid into a variable. -/
structure RL (V : World) (cx : BitVec 128) (nn : Int) (b5 b6 : Bool) (g : Nat) (W : World) : Prop where
  bel : Below V.heap.size V W
  a : b5 = true → V.heap.size ≤ g ∧ (if b6 = true then AtP W g cx nn else AtP W g 0#128 0)
  c : b6 = true → b5 = true
theorem RL.below {V : World} {cx : BitVec 128} {nn : Int} {b5 b6 : Bool} {g : Nat} {W W' : World} (k : RL V cx nn b5 b6 g W) (hb : Below W.heap.size W W') : RL V cx nn b5 b6 g W' := ⟨keepb hb k.bel, fun h => ⟨(k.a h).1, by have := (k.a h).2; cases b6 <;> simp at this ⊢ <;> exact this.below hb⟩, k.c⟩
theorem RL.al {V : World} {cx : BitVec 128} {nn : Int} {b6 : Bool} {g : Nat} {W : World} (k : RL V cx nn false b6 g W) : RL V cx nn true b6 W.heap.size (W.alloc (.cells #[.int .u64 0, .int .u64 0, .int .i64 0] 45)) := by
  have h6 : b6 = false := by
    cases h : b6 with
    | false => rfl
    | true => exact absurd (k.c h) (by decide)
  have hb := bl1 W (.cells #[.int .u64 0, .int .u64 0, .int .i64 0] 45)
  have ha := atp_new W W.heap.size 0#128 0 45 rfl
  rw [hI_zero, lI_zero] at ha
  exact ⟨keepb hb k.bel, fun _ => ⟨k.bel.size, by rw [h6, if_neg (by decide)]; exact ha⟩, fun _ => rfl⟩
theorem RL.st {V : World} {cx : BitVec 128} {nn : Int} {b5 : Bool} {g : Nat} {W : World} (k : RL V cx nn b5 false g W) (h5 : b5 = true) : RL V cx nn b5 true g (((W.setCell ⟨g, 0, none⟩ (.int .u64 (hI cx))).setCell ⟨g, 1, none⟩ (.int .u64 (lI cx))).setCell ⟨g, 2, none⟩ (.int .i64 nn)) := by
  obtain ⟨h1, h2⟩ := k.a h5
  rw [if_neg (by decide)] at h2
  exact ⟨((k.bel.setCell (p := ⟨g, 0, none⟩) h1 _).setCell (p := ⟨g, 1, none⟩) h1 _).setCell (p := ⟨g, 2, none⟩) h1 _, fun _ => ⟨h1, by rw [if_pos rfl]; exact h2.set6 cx nn⟩, fun _ => h5⟩
/-- What is known while rising is called. -/
structure RI (V : World) (px cx st : BitVec 128) (b7 : Bool) (g : Nat) (W : World) : Prop where
  bel : Below V.heap.size V W
  r : b7 = true → V.heap.size ≤ g ∧ At W g px ∧ At W (g + 1) cx ∧ At W (g + 2) st
theorem RI.below {V : World} {px cx st : BitVec 128} {b7 : Bool} {g : Nat} {W W' : World} (k : RI V px cx st b7 g W) (hb : Below W.heap.size W W') : RI V px cx st b7 g W' := ⟨keepb hb k.bel, fun h => ⟨(k.r h).1, (k.r h).2.1.below hb, (k.r h).2.2.1.below hb, (k.r h).2.2.2.below hb⟩⟩
theorem RI.made {V : World} {px cx st : BitVec 128} {b7 : Bool} {g : Nat} {W W' : World} (k : RI V px cx st b7 g W) (h : W' = ((W.alloc (.cells #[.int .u64 (hI px), .int .u64 (lI px)] 27)).alloc (.cells #[.int .u64 (hI cx), .int .u64 (lI cx)] 27)).alloc (.cells #[.int .u64 (hI st), .int .u64 (lI st)] 27)) : RI V px cx st true W.heap.size W' := by
  subst h
  have b1 := bl1 W (.cells #[.int .u64 (hI px), .int .u64 (lI px)] 27)
  have b2 := bl1 (W.alloc (.cells #[.int .u64 (hI px), .int .u64 (lI px)] 27)) (.cells #[.int .u64 (hI cx), .int .u64 (lI cx)] 27)
  have b3 := bl1 ((W.alloc (.cells #[.int .u64 (hI px), .int .u64 (lI px)] 27)).alloc (.cells #[.int .u64 (hI cx), .int .u64 (lI cx)] 27)) (.cells #[.int .u64 (hI st), .int .u64 (lI st)] 27)
  exact ⟨keepb b3 (keepb b2 (keepb b1 k.bel)), fun _ => ⟨k.bel.size, ((at_new W W.heap.size px 27 rfl).below b2).below b3, (at_new _ (W.heap.size + 1) cx 27 (by simp)).below b3, at_new _ (W.heap.size + 2) st 27 (by simp)⟩⟩
/-- What Split tells. -/
def spL (F : Int) (px : BitVec 128) (pl nn : Int) : List (BitVec 128 × Int) := if checkE F px pl = 0 ∧ pl ≤ nn ∧ nn ≤ F then (ris (bit1 (nn - 1)) (2 ^ (nn - pl).toNat - 1) px).map (fun w => (w, nn)) else []
def encP (x : BitVec 128 × Int) : Array Value := #[.agg #[.int .u64 (hI x.1), .int .u64 (lI x.1), .int .i64 x.2]]
structure SpM (Z : Nat → Prop) (B Af Ap An : Nat) (F : Int) (px : BitVec 128) (pl nn : Int) (W : World) : Prop where
  f : W.cell? ⟨Af, 0, none⟩ = some (.int .i64 F)
  p : AtP W Ap px pl
  n : W.cell? ⟨An, 0, none⟩ = some (.int .i64 nn)
  zf : Z Af ∨ B ≤ Af
  zp : Z Ap ∨ B ≤ Ap
  zn : Z An ∨ B ≤ An
theorem AtP.kw {Z : Nat → Prop} {B : Nat} {W W' : World} {b : Nat} {x : BitVec 128} {n : Int} (k : AtP W b x n) (h : KW Z B W W') (hz : Z b ∨ B ≤ b) : AtP W' b x n := by
  have hlt := k.lt6
  have e : W'.heap[b]? = W.heap[b]? := by rw [h.2 b _ (Array.getElem?_eq_getElem hlt) hz, Array.getElem?_eq_getElem hlt]
  obtain ⟨c0, c1, c2, f0, f1, f2⟩ := k
  exact ⟨(World.cell?_of_block (a := ⟨b, 0, none⟩) e).trans c0, (World.cell?_of_block (a := ⟨b, 1, none⟩) e).trans c1, (World.cell?_of_block (a := ⟨b, 2, none⟩) e).trans c2, (World.frozen?_of_block (a := ⟨b, 0, none⟩) e).trans f0, (World.frozen?_of_block (a := ⟨b, 1, none⟩) e).trans f1, (World.frozen?_of_block (a := ⟨b, 2, none⟩) e).trans f2⟩
theorem SpM.kw {Z : Nat → Prop} {B Af Ap An : Nat} {F : Int} {px : BitVec 128} {pl nn : Int} {W W' : World} (k : SpM Z B Af Ap An F px pl nn W) (h : KW Z B W W') : SpM Z B Af Ap An F px pl nn W' := ⟨kw_cell h k.zf k.f, k.p.kw h k.zp, kw_cell h k.zn k.n, k.zf, k.zp, k.zn⟩
theorem fam_of_check {F : Int} {px : BitVec 128} {pn : Int} (h : checkE F px pn = 0) : fam F = true := by
  unfold checkE at h
  split at h
  · assumption
  · cases h
theorem rt_of_check {F : Int} {px : BitVec 128} {pn : Int} (h : checkE F px pn = 0) : Rt F px pn := by
  unfold checkE at h
  split at h
  · split at h
    · cases h
    · split at h
      · cases h
      · split at h
        · rename_i a b c
          exact ⟨by omega, by omega, by simpa using c⟩
        · cases h
  · cases h
theorem fam_bd6 (F : Int) (hf : fam F = true) : 0 ≤ F ∧ F ≤ 128 := by rcases fam_ways F hf with rfl | rfl <;> decide
theorem RoundIn.wide6 {n m : Nat} {P : Program} {l : Nat} {f : FuncId} {tmps : Array Value} {assign body : Code} {w : World} {R : Ending → World → Prop} (h : RoundIn Fence.wide n P l f tmps assign body w R) : RoundIn Fence.wide m P l f tmps assign body w R := ⟨h.1, fun c cs _ => h.2 c cs (fun d e => by cases e)⟩
theorem split_last (F : Int) (hf : fam F = true) (px : BitVec 128) (pl nn : Int) (h : Rt F px pl) (h1 : pl ≤ nn) (h2 : nn ≤ F) : (cutW (lastW F px pl) nn).toNat = px.toNat + 2 ^ (128 - pl.toNat) - 2 ^ (128 - nn.toNat) := by
  have hF := (fam_bd6 F hf).2
  have h0 := h.1
  have a := last_nat F px pl h hF
  have hd := (cut_dvd px pl).mp h.2.2
  have s0 : 0 < 2 ^ (128 - F.toNat) := Nat.pow_pos (by decide)
  have s1 : 0 < 2 ^ (128 - nn.toNat) := Nat.pow_pos (by decide)
  have le1 : 2 ^ (128 - F.toNat) ≤ 2 ^ (128 - nn.toNat) := Nat.pow_le_pow_right (by decide) (by omega)
  have le2 : 2 ^ (128 - nn.toNat) ≤ 2 ^ (128 - pl.toNat) := Nat.pow_le_pow_right (by decide) (by omega)
  have dv : 2 ^ (128 - nn.toNat) ∣ 2 ^ (128 - pl.toNat) := Nat.pow_dvd_pow 2 (by omega)
  obtain ⟨c, hc⟩ := Nat.dvd_trans dv hd
  obtain ⟨d, hd'⟩ := dv
  rw [cut_nat]
  have hd1 : 1 ≤ d := by
    cases d with
    | zero => omega
    | succ d => omega
  obtain ⟨d', rfl⟩ : ∃ d', d = d' + 1 := ⟨d - 1, by omega⟩
  generalize 2 ^ (128 - nn.toNat) = K at *
  generalize 2 ^ (128 - pl.toNat) = M at *
  generalize 2 ^ (128 - F.toNat) = S at *
  have e1 : (lastW F px pl).toNat = K * (c + d') + (K - S) := by
    have : K * (c + (d' + 1)) = K * c + K * (d' + 1) := Nat.mul_add _ _ _
    have e2 : K * (d' + 1) = K * d' + K := Nat.mul_succ _ _
    have e3 : K * (c + d') = K * c + K * d' := Nat.mul_add _ _ _
    omega
  rw [e1, Nat.mul_add_div s1, Nat.div_eq_of_lt (by omega), Nat.add_zero]
  have e2 : K * (d' + 1) = K * d' + K := Nat.mul_succ _ _
  have e3 : (c + d') * K = K * c + K * d' := by rw [Nat.mul_comm, Nat.mul_add]
  omega
theorem split_ris (F : Int) (hf : fam F = true) (px : BitVec 128) (pl nn : Int) (h : Rt F px pl) (h1 : pl ≤ nn) (h2 : nn ≤ F) : RisTo (bit1 (nn - 1)) (cutW (lastW F px pl) nn) (2 ^ (nn - pl).toNat - 1) px := by
  have hF := (fam_bd6 F hf).2
  have h0 := h.1
  by_cases e : nn = pl
  · subst e
    have e2 : (nn - nn).toNat = 0 := by omega
    rw [e2, Nat.pow_zero, Nat.sub_self]
    show px = _
    have a := last_cut F px nn h
    exact a.symm
  · have hst : (bit1 (nn - 1)).toNat = 2 ^ (128 - nn.toNat) := by
      rw [bit1_nat (nn - 1) (by omega) (by omega)]
      congr 1
      omega
    have pw : 0 < 2 ^ (128 - nn.toNat) := Nat.pow_pos (by decide)
    refine ris_to _ _ (by rw [hst]; exact pw) _ _ ?_
    rw [hst, split_last F hf px pl nn h h1 h2]
    have e3 : 2 ^ (nn - pl).toNat * 2 ^ (128 - nn.toNat) = 2 ^ (128 - pl.toNat) := by
      rw [← Nat.pow_add]
      congr 1
      omega
    have p2 : 0 < 2 ^ (nn - pl).toNat := Nat.pow_pos (by decide)
    rw [Nat.sub_mul, e3, Nat.one_mul]
    have : 2 ^ (128 - nn.toNat) ≤ 2 ^ (128 - pl.toNat) := Nat.pow_le_pow_right (by decide) (by omega)
    omega
end Go.Proofs.Ytofpbommhklooaa
/-
  Plain facts: what Split tells, one by one.
-/
namespace Go.Proofs.Ytofpbommhklooaa
open Go.RowKit
set_option linter.unusedSimpArgs false
set_option linter.unusedVariables false

theorem ris_get (st : BitVec 128) : ∀ (n : Nat) (x : BitVec 128) (k : Nat), k ≤ n → (ris st n x)[k]? = some (x + BitVec.ofNat 128 (k * st.toNat))
  | 0, x, k, h => by
    obtain rfl : k = 0 := by omega
    simp [ris]
  | n + 1, x, 0, h => by simp [ris]
  | n + 1, x, k + 1, h => by
    rw [ris, List.getElem?_cons_succ, ris_get st n (x + st) k (by omega)]
    congr 1
    apply BitVec.eq_of_toNat_eq
    simp only [BitVec.toNat_add, BitVec.toNat_ofNat, Nat.add_mod_mod, Nat.mod_add_mod]
    rw [Nat.succ_mul]
    congr 1
    omega
/-- The k-th one. -/
def xk (px : BitVec 128) (nn : Int) (k : Nat) : BitVec 128 := px + BitVec.ofNat 128 (k * 2 ^ (128 - nn.toNat))
theorem room6 (F : Int) (hf : fam F = true) (px : BitVec 128) (pl : Int) (h : Rt F px pl) : px.toNat + 2 ^ (128 - pl.toNat) ≤ 2 ^ 128 := rt_room F px pl h (fam_bd6 F hf).2
theorem xk_nat (F : Int) (hf : fam F = true) (px : BitVec 128) (pl nn : Int) (h : Rt F px pl) (h1 : pl ≤ nn) (h2 : nn ≤ F) (k : Nat) (hk : k < 2 ^ (nn - pl).toNat) : (xk px nn k).toNat = px.toNat + k * 2 ^ (128 - nn.toNat) ∧ k * 2 ^ (128 - nn.toNat) + 2 ^ (128 - nn.toNat) ≤ 2 ^ (128 - pl.toNat) := by
  have hF := (fam_bd6 F hf).2
  have h0 := h.1
  have r := room6 F hf px pl h
  have e3 : 2 ^ (nn - pl).toNat * 2 ^ (128 - nn.toNat) = 2 ^ (128 - pl.toNat) := by
    rw [← Nat.pow_add]
    congr 1
    omega
  have le : (k + 1) * 2 ^ (128 - nn.toNat) ≤ 2 ^ (nn - pl).toNat * 2 ^ (128 - nn.toNat) := Nat.mul_le_mul_right _ hk
  rw [e3, Nat.succ_mul] at le
  have s1 : 0 < 2 ^ (128 - nn.toNat) := Nat.pow_pos (by decide)
  refine ⟨?_, le⟩
  unfold xk
  rw [BitVec.toNat_add, BitVec.toNat_ofNat, Nat.add_mod_mod, Nat.mod_eq_of_lt (by omega)]
theorem xk_rt (F : Int) (hf : fam F = true) (px : BitVec 128) (pl nn : Int) (h : Rt F px pl) (h1 : pl ≤ nn) (h2 : nn ≤ F) (k : Nat) (hk : k < 2 ^ (nn - pl).toNat) : Rt F (xk px nn k) nn := by
  have h0 := h.1
  obtain ⟨a, b⟩ := xk_nat F hf px pl nn h h1 h2 k hk
  refine ⟨by omega, h2, (cut_dvd _ _).mpr ?_⟩
  rw [a]
  exact Nat.dvd_add (Nat.dvd_trans (Nat.pow_dvd_pow 2 (by omega)) ((cut_dvd px pl).mp h.2.2)) (Nat.dvd_mul_left _ _)
theorem xk_next (F : Int) (hf : fam F = true) (px : BitVec 128) (pl nn : Int) (h : Rt F px pl) (h1 : pl ≤ nn) (h2 : nn ≤ F) (k : Nat) (hk : k + 1 < 2 ^ (nn - pl).toNat) : lastW F (xk px nn k) nn + putW 0#128 (F - 1) 1 = xk px nn (k + 1) := by
  have hF := (fam_bd6 F hf).2
  obtain ⟨a, b⟩ := xk_nat F hf px pl nn h h1 h2 k (by omega)
  obtain ⟨a', b'⟩ := xk_nat F hf px pl nn h h1 h2 (k + 1) hk
  have l := last_nat F _ _ (xk_rt F hf px pl nn h h1 h2 k (by omega)) hF
  have s := step_nat F hf
  have r := room6 F hf px pl h
  rw [put_step F hf]
  apply BitVec.eq_of_toNat_eq
  rw [BitVec.toNat_add, s, a', Nat.succ_mul]
  rw [Nat.succ_mul] at b'
  rw [Nat.mod_eq_of_lt (by omega)]
  omega
theorem xk_last (F : Int) (hf : fam F = true) (px : BitVec 128) (pl nn : Int) (h : Rt F px pl) (h1 : pl ≤ nn) (h2 : nn ≤ F) (k : Nat) (hk : k + 1 = 2 ^ (nn - pl).toNat) : lastW F (xk px nn k) nn = lastW F px pl := by
  have hF := (fam_bd6 F hf).2
  have h0 := h.1
  obtain ⟨a, b⟩ := xk_nat F hf px pl nn h h1 h2 k (by omega)
  have l := last_nat F _ _ (xk_rt F hf px pl nn h h1 h2 k (by omega)) hF
  have l2 := last_nat F _ _ h hF
  have e3 : 2 ^ (nn - pl).toNat * 2 ^ (128 - nn.toNat) = 2 ^ (128 - pl.toNat) := by
    rw [← Nat.pow_add]
    congr 1
    omega
  rw [← hk, Nat.succ_mul] at e3
  exact BitVec.eq_of_toNat_eq (by omega)
theorem xk_within (F : Int) (hf : fam F = true) (px : BitVec 128) (pl nn : Int) (h : Rt F px pl) (h1 : pl ≤ nn) (h2 : nn ≤ F) (k : Nat) (hk : k < 2 ^ (nn - pl).toNat) : withinB (xk px nn k) nn px pl = true := by
  have h0 := h.1
  obtain ⟨a, b⟩ := xk_nat F hf px pl nn h h1 h2 k hk
  have hd := (cut_dvd px pl).mp h.2.2
  have s1 : 0 < 2 ^ (128 - nn.toNat) := Nat.pow_pos (by decide)
  have s2 : 0 < 2 ^ (128 - pl.toNat) := Nat.pow_pos (by decide)
  have hc : cutW (xk px nn k) pl = px := by
    apply BitVec.eq_of_toNat_eq
    rw [cut_nat, a]
    obtain ⟨c, hc⟩ := hd
    rw [hc, Nat.mul_add_div s2, Nat.div_eq_of_lt (by omega), Nat.add_zero, Nat.mul_comm]
  unfold withinB
  simp [hc]
  try omega
/-- Which one comes when so many have come. -/
theorem sp_at (F : Int) (hf : fam F = true) (px : BitVec 128) (pl nn : Int) (h : Rt F px pl) (h1 : pl ≤ nn) (h2 : nn ≤ F) (hc : checkE F px pl = 0) (pre : List (BitVec 128 × Int)) (x : BitVec 128 × Int) (hp : pre ++ [x] <+: spL F px pl nn) : pre.length < 2 ^ (nn - pl).toNat ∧ x = (xk px nn pre.length, nn) := by
  have hF := (fam_bd6 F hf).2
  have h0 := h.1
  have p2 : 0 < 2 ^ (nn - pl).toNat := Nat.pow_pos (by decide)
  rw [spL, if_pos ⟨hc, h1, h2⟩] at hp
  have hl := hp.length_le
  rw [List.length_map, ris_len, List.length_append, List.length_singleton] at hl
  refine ⟨by omega, ?_⟩
  obtain ⟨t, ht⟩ := hp
  have e : (((ris (bit1 (nn - 1)) (2 ^ (nn - pl).toNat - 1) px).map (fun w => (w, nn))))[pre.length]? = some x := by
    rw [← ht]
    simp
  rw [List.getElem?_map, ris_get _ _ _ _ (by omega)] at e
  simp only [Option.map_some, Option.some.injEq] at e
  rw [← e]
  unfold xk
  by_cases q : nn = 0
  · have : pre.length = 0 := by
      have e0 : (nn - pl).toNat = 0 := by omega
      have e1 : 2 ^ (nn - pl).toNat = 1 := by rw [e0]
      omega
    rw [this, Nat.zero_mul, Nat.zero_mul]
  · have hst : (bit1 (nn - 1)).toNat = 2 ^ (128 - nn.toNat) := by
      rw [bit1_nat (nn - 1) (by omega) (by omega)]
      congr 1
      omega
    rw [hst]
theorem sp_len (F : Int) (px : BitVec 128) (pl nn : Int) (h1 : pl ≤ nn) (h2 : nn ≤ F) (hc : checkE F px pl = 0) : (spL F px pl nn).length = 2 ^ (nn - pl).toNat := by
  have p2 : 0 < 2 ^ (nn - pl).toNat := Nat.pow_pos (by decide)
  rw [spL, if_pos ⟨hc, h1, h2⟩, List.length_map, ris_len]
  omega
end Go.Proofs.Ytofpbommhklooaa
/-
  A sequence is not nil.
-/
namespace Go.Proofs.Ytofpbommhklooaa
open Go.RowKit Go.Shelf
set_option linter.unusedSimpArgs false
set_option linter.unusedVariables false
end Go.Proofs.Ytofpbommhklooaa
/-
  A function's value is laid in a variable.
-/
namespace Go.Proofs.Ytofpbommhklooaa
open Go.RowKit Go.Shelf
set_option linter.unusedSimpArgs false
set_option linter.unusedVariables false
theorem storeF_run {P : Program} {w : World} {a : Addr} {m : Mode} (f : Fn) (x l : Array Value) : (store a (.func f x l) m).run P w = stored P w a (.func f x l) m := run_store P w a _ m rfl
end Go.Proofs.Ytofpbommhklooaa
