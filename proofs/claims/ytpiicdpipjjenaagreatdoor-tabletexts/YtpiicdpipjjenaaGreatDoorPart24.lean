/-
  Part 24 of the proof: 7 texts, one behind the other.
-/
import Derived.Test.YtpiicdpipjjenaaGreatDoorPart23
import Derived.Test.YtpiicdpipjjenaaGreatDoorPart6
import Derived.Test.YtpiicdpipjjenaaGreatDoorPart17
import Derived.Test.YtpiicdpipjjenaaGreatDoorPart16
import Derived.Test.YtpiicdpipjjenaaGreatDoorPart10
import Derived.Test.YtpiicdpipjjenaaGreatDoorPart8
import Derived.Test.YtpiicdpipjjenaaGreatDoorPart7
import Derived.Test.YtpiicdpipjjenaaGreatDoorPart3
namespace Go.Proofs.YtpiicdpipjjenaaGreatDoor
open Go.RowKit Go.Shelf
set_option linter.unusedSimpArgs false
set_option linter.unusedVariables false
attribute [local go_sem] Oper.semAt_some

def RwB (W : World) (b off : Nat) (l : List Rte) : Prop := ∀ j u, (rowR l)[j]? = some u → W.cell? ⟨b, off + j, none⟩ = some u
theorem RwB.below {W W' : World} {b off : Nat} {l : List Rte} (h : RwB W b off l) (hb : Below W.heap.size W W') : RwB W' b off l := fun j u hj => keepc hb (h j u hj)
theorem RwB.take {W : World} {b off : Nat} {l : List Rte} (h : RwB W b off l) (k : Nat) : RwB W b off (l.take k) := fun j u hj => h j u (by
  rw [← rowR_take] at hj
  have := (List.getElem?_eq_some_iff.mp hj).1
  rw [List.length_take] at this
  rw [← hj, List.getElem?_take_of_lt (by omega)])
theorem RwB.rwr {W : World} {b off c : Nat} {l : List Rte} (h : RwB W b off l) : RwR W (.slice (some ⟨b, off, none⟩) l.length c) l := ⟨_, _, rfl, .inr ⟨b, off, rfl, h⟩⟩
set_option maxHeartbeats 4000000 in
theorem upTo2_any (y : BitVec 128) (m : Int) (b off c : Nat) (l : List Rte) (w : World) (hv : RwB w b off l) (hlc : l.length ≤ c) (hc0 : 0 < c) (hl : l.length ≤ 1000000000) (hm : Mono y m l) :
    Calls Tryz.prog 82 #[.slice (some ⟨b, off, none⟩) l.length c, .agg #[.int .u64 (hI y), .int .u64 (lI y), .int .i64 m]] w fun e w' => (∃ k : Nat, UpTo y m l k ∧ e = .returned (.slice (some ⟨b, off, none⟩) k c)) ∧ Below w.heap.size w w' := by
  have b0 := bl1 w (.cells #[.int .u64 (hI y), .int .u64 (lI y), .int .i64 m] 45)
  obtain ⟨p0, p1, p2, -⟩ := atp_new w w.heap.size y m 45 rfl
  have KP := place_any y m (.slice (some ⟨b, off, none⟩) l.length c) l _ ((hv.below b0).rwr) hl hm
  have HB := hidR b0
  have hc1 : ¬ c = 0 := by omega
  clear b0 hv hm
  go_enter Tryz.func82, Tryz.ntmps82
  go_wp2_with fail
  refine KP.mono ?_
  rintro e w1 ⟨⟨i, ok, hP, rfl⟩, hb⟩
  have kB := hidR (keepb hb HB.out)
  have hil := hP.1
  have j0 : (0 : Int) ≤ (i : Int) := by omega
  have j1 : (i : Int) ≤ (c : Int) := by omega
  cases ok
  · have HU : Hid (UpTo y m l i) := hidR ⟨hil, i, false, hP, by simp⟩
    clear KP hb HB p0 p1 p2 hP
    go_wp2
    exact bodyPost_ret (v := .slice (some ⟨b, off, none⟩) i c) (by simp [results, Tryz.results82, go_sem]) rfl ⟨⟨i, HU.out, rfl⟩, kB.out⟩
  · have hil2 : i < l.length := by
      have := hP.2.2
      apply Classical.byContradiction; intro q
      rw [List.getElem?_eq_none (by omega)] at this
      cases this
    have HU : Hid (UpTo y m l (i + 1)) := hidR ⟨by omega, i, true, hP, by simp⟩
    have wi : IntKind.i64.wrap ((i : Int) + 1) = ((i + 1 : Nat) : Int) := by rw [IntKind.wrap_i64]; push_cast; omega
    have j2 : (0 : Int) ≤ ((i + 1 : Nat) : Int) := by omega
    have j3 : ((i + 1 : Nat) : Int) ≤ (c : Int) := by omega
    obtain ⟨k, hk⟩ : ∃ k, k = i + 1 := ⟨_, rfl⟩
    rw [← hk] at HU wi j2 j3
    clear KP hb HB p0 p1 p2 hP hk
    go_wp2
    exact bodyPost_ret (v := .slice (some ⟨b, off, none⟩) k c) (by simp [results, Tryz.results82, go_sem]) rfl ⟨⟨k, HU.out, rfl⟩, kB.out⟩
theorem UpTo_ex (y : BitVec 128) (m : Int) (l : List Rte) (hO : OrdR l) : ∃ k, UpTo y m l k := by
  have hm := ord_mono hO y m
  obtain ⟨i, hi1, hi2⟩ : ∃ i, i ≤ l.length ∧ ∀ (j : Nat) (hj : j < l.length), j < i ↔ toP y m l[j] < 0 := by
    have key : ∀ d, d ≤ l.length → (∀ (j : Nat) (hj : j < l.length), l.length - d ≤ j → ¬ toP y m l[j] < 0) → ∃ i, i ≤ l.length ∧ ∀ (j : Nat) (hj : j < l.length), j < i ↔ toP y m l[j] < 0 := by
      have : ∀ e d, l.length - d ≤ e → d ≤ l.length → (∀ (j : Nat) (hj : j < l.length), l.length - d ≤ j → ¬ toP y m l[j] < 0) → ∃ i, i ≤ l.length ∧ ∀ (j : Nat) (hj : j < l.length), j < i ↔ toP y m l[j] < 0 := by
        intro e
        induction e with
        | zero => intro d h1 h2 h3; exact ⟨0, Nat.zero_le _, fun j hj => ⟨fun q => by omega, fun q => absurd q (h3 j hj (by omega))⟩⟩
        | succ e ih =>
          intro d h1 h2 h3
          by_cases c : d = l.length
          · exact ⟨0, Nat.zero_le _, fun j hj => ⟨fun q => by omega, fun q => absurd q (h3 j hj (by omega))⟩⟩
          · by_cases c2 : toP y m (l[l.length - d - 1]'(by omega)) < 0
            · exact ⟨l.length - d, by omega, fun j hj => ⟨fun q => hm j (l.length - d - 1) (by omega) (by omega) c2, fun q => by
                apply Classical.byContradiction; intro z
                exact h3 j hj (by omega) q⟩⟩
            · refine ih (d + 1) (by omega) (by omega) (fun j hj h4 => ?_)
              by_cases c3 : j = l.length - d - 1
              · subst c3; exact c2
              · exact h3 j hj (by omega)
      exact fun d h1 h2 => this l.length d (by omega) h1 h2
    exact key 0 (Nat.zero_le _) (fun j hj h => by omega)
  refine ⟨if (match l[i]? with | some r => decide (toP y m r = 0) | none => false) = true then i + 1 else i, ?_, i, _, ⟨hi1, hi2, rfl⟩, rfl⟩
  by_cases c : i < l.length
  · generalize (match l[i]? with | some r => decide (toP y m r = 0) | none => false) = z
    cases z <;> simp <;> omega
  · rw [List.getElem?_eq_none (by omega)]
    simpa using hi1
theorem ord_take {l : List Rte} (hO : OrdR l) (k : Nat) : OrdR (l.take k) := fun a b hb hab => by
  have hb' := hb
  rw [List.length_take] at hb'
  have := hO a b (by omega) hab
  simpa [List.getElem_take] using this
theorem UpTo_one {y : BitVec 128} {m : Int} {l : List Rte} {i j : Nat} (h : UpTo y m l i) (g : UpTo y m l j) : j = i := by
  obtain ⟨-, a, ok, h1, h2⟩ := h
  obtain ⟨-, a', ok', g1, g2⟩ := g
  obtain ⟨e1, e2⟩ := h1.one g1
  subst e1 e2
  rw [h2, g2]
def encR (r : Rte) : Array Value := #[.agg #[.int .u64 (hI r.1.1), .int .u64 (lI r.1.1), .int .i64 r.1.2, .int .i64 r.2]]
structure UwM (P5 L5 b off c : Nat) (px : BitVec 128) (pn : Int) (l : List Rte) (W : World) : Prop where
  p : W.heap[P5]? = some (.cells #[.int .u64 (hI px), .int .u64 (lI px), .int .i64 pn] 45)
  v : W.cell? ⟨L5, 0, none⟩ = some (.slice (some ⟨b, off, none⟩) l.length c)
  r : RwB W b off l
section
variable {P5 L5 b off c : Nat} {px : BitVec 128} {pn : Int} {l : List Rte} {W W' : World}
theorem kx_cell {Xc : World → Nat → Prop} (h : Kx Xc W W') {q o : Nat} {u : Value} (hx : ¬ Xc W q) (hc : W.cell? ⟨q, o, none⟩ = some u) : W'.cell? ⟨q, o, none⟩ = some u := by
  obtain ⟨x, e⟩ : ∃ x, W.heap[q]? = some x := ⟨_, Array.getElem?_eq_getElem (cell_in hc)⟩
  have e2 := h.2.1 q x e hx
  exact (World.cell?_of_block (a := ⟨q, o, none⟩) (e2.trans e.symm)).trans hc
theorem UwM.kx {Xc : World → Nat → Prop} (k : UwM P5 L5 b off c px pn l W) (h : Kx Xc W W') (hx : ∀ z, (z = P5 ∨ z = L5 ∨ z = b) → ¬ Xc W z) : UwM P5 L5 b off c px pn l W' := ⟨h.2.1 _ _ k.p (hx _ (.inl rfl)), kx_cell h (hx _ (.inr (.inl rfl))) k.v, fun j u hj => kx_cell h (hx _ (.inr (.inr rfl))) (k.r j u hj)⟩
theorem UwM.own {N : Nat} (k : UwM P5 L5 b off c px pn l W) (h1 : ¬ P5 = N) (h2 : ¬ L5 = N) (h3 : ¬ b = N) (x y z : Value) : UwM P5 L5 b off c px pn l (((W.setCell ⟨N, 0, none⟩ x).setCell ⟨N, 1, none⟩ y).setCell ⟨N, 2, none⟩ z) := by
  have far : ∀ {q : Nat}, ¬ q = N → (((W.setCell ⟨N, 0, none⟩ x).setCell ⟨N, 1, none⟩ y).setCell ⟨N, 2, none⟩ z).heap[q]? = W.heap[q]? := fun h => by rw [hSet6 _ h, hSet6 _ h, hSet6 _ h]
  exact ⟨(far h1).trans k.p, (World.cell?_of_block (a := ⟨L5, 0, none⟩) (far h2)).trans k.v, fun j u hj => (World.cell?_of_block (a := ⟨b, off + j, none⟩) (far h3)).trans (k.r j u hj)⟩
theorem UwM.below (k : UwM P5 L5 b off c px pn l W) (h : Below W.heap.size W W') : UwM P5 L5 b off c px pn l W' := ⟨(h.block _ (blk_lt5 k.p)).trans k.p, keepc h k.v, fun j u hj => keepc h (k.r j u hj)⟩
end
def sLen : Value → Nat
  | .slice _ n _ => n
  | _ => 0
theorem upw_any (b off c : Nat) (px : BitVec 128) (pn : Int) (l : List Rte) (w : World) :
    Calls Tryz.prog 57 #[.slice (some ⟨b, off, none⟩) l.length c, .agg #[.int .u64 (hI px), .int .u64 (lI px), .int .i64 pn]] w fun e w' => e = .returned (.func (.func 81) #[] #[.pointer (some ⟨w.heap.size + 1, 0, none⟩), .pointer (some ⟨w.heap.size, 0, none⟩)]) ∧ w' = (w.alloc (.cells #[.slice (some ⟨b, off, none⟩) l.length c] 22)).alloc (.cells #[.int .u64 (hI px), .int .u64 (lI px), .int .i64 pn] 45) := by
  go_enter Tryz.func57, Tryz.ntmps57
  go_wp2
  exact bodyPost_ret (v := .func (.func 81) #[] #[.pointer (some ⟨w.heap.size + 1, 0, none⟩), .pointer (some ⟨w.heap.size, 0, none⟩)]) (by simp [results, Tryz.results57, go_sem]) rfl ⟨rfl, rfl⟩
set_option maxRecDepth 100000 in
set_option maxHeartbeats 16000000 in
theorem upw1_any (n : Nat) (P5 L5 b off c : Nat) (F : Int) (px : BitVec 128) (pn : Int) (l : List Rte) (hF : F ≤ 128) (hO : OrdR l) (hRt : RtR F l) (hp : Rt F px pn) (hlc : l.length ≤ c) (hc0 : 0 < c) (hl : l.length ≤ 1000000000) (w : World) (hM : UwM P5 L5 b off c px pn l w) :
    SeqZ 45 n Tryz.prog 81 #[.pointer (some ⟨P5, 0, none⟩), .pointer (some ⟨L5, 0, none⟩)] encR (fun z => z = P5 ∨ z = L5 ∨ z = b) (fun ys => ys = (l.filter (inR px pn)).reverse) (fun pre => pre <+: (l.filter (inR px pn)).reverse) w := by
  intro l9 J Jx Xc W hW hJ hJx hc1 hc2 hY h0
  have q0 := bl1 W (.cells #[.int .u64 (hI px), .int .u64 (lI px), .int .i64 pn] 45)
  have HM0 := hidX ((hM.below hW).below q0)
  have HJ := hidX hJ
  have HY := hidX hY
  have HJ0 := hidX (hJ _ _ _ h0 (Gw.of q0))
  have HN0 : Hid ((W.alloc (.cells #[.int .u64 (hI px), .int .u64 (lI px), .int .i64 pn] 45)).heap[W.heap.size]? = some (.cells #[.int .u64 (hI px), .int .u64 (lI px), .int .i64 pn] 45)) := hidX Array.getElem?_push_size
  have HC1 := hidX (fun s A (h : J s A) z (hz : z = P5 ∨ z = L5 ∨ z = b) (hx : Xc A z) => (hc1 s A h z hx).2 hz)
  have HC3 := hidX (fun s A (h : J s A) z (hx : Xc A z) => (hc1 s A h z hx).1)
  have HQ := hidX (fun s A B (h : J s A) (hg : Gw 45 W.heap.size A B) z (hx : ¬ Xc A z) (q : Xc B z) => hx (hc2 s A B h hg z q))
  have HXN0 := hidX (fun q => HQ.out _ _ _ h0 (Gw.of q0) W.heap.size (fun q => by have := HC3.out _ _ h0 _ q; omega) q)
  have HS0 : Hid (W.heap.size < (W.alloc (.cells #[.int .u64 (hI px), .int .u64 (lI px), .int .i64 pn] 45)).heap.size) := hidX (by simp)
  have HT : Hid (OrdR l ∧ RtR F l ∧ Rt F px pn) := hidX ⟨hO, hRt, hp⟩
  have HKU : Hid (∀ (y : BitVec 128) (m : Int) (k : Nat) (X : World), k ≤ l.length → RwB X b off l → Calls Tryz.prog 82 #[.slice (some ⟨b, off, none⟩) k c, .agg #[.int .u64 (hI y), .int .u64 (lI y), .int .i64 m]] X fun e w' => (∃ k' : Nat, UpTo y m (l.take k) k' ∧ e = .returned (.slice (some ⟨b, off, none⟩) k' c)) ∧ Below X.heap.size X w') := hidX (fun y m k X hk hX => by
    have e : (l.take k).length = k := by rw [List.length_take]; omega
    have hOt : OrdR (l.take k) := fun a b hb hab => by
      have := hO a b (by omega) hab
      simpa [List.getElem_take] using this
    have := upTo2_any y m b off c (l.take k) X (hX.take k) (by omega) hc0 (by omega) (ord_mono hOt y m)
    rw [e] at this
    exact this)
  have a0 := at_blk (hM.below hW).p 0 (.int .u64 (hI px)) rfl
  have a1 := at_blk (hM.below hW).p 1 (.int .u64 (lI px)) rfl
  have a2 := at_blk (hM.below hW).p 2 (.int .i64 pn) rfl
  have v0 := (hM.below hW).v
  have hLW : L5 < W.heap.size := cell_in v0
  have HV : Hid (¬ P5 = W.heap.size ∧ ¬ L5 = W.heap.size ∧ (0 < l.length → ¬ b = W.heap.size)) := hidX ⟨by have := blk_lt5 (hM.below hW).p; omega, by omega, fun q => by
    have := cell_in (rwr_cells (hM.below hW).r 0 q).1
    omega⟩
  clear hJ hJx hY h0 hM q0 hc1 hc2 hO hRt hp
  refine callsIn_of_wp Tryz.func81 rfl trivial ?_ rfl
  simp only [Tryz.ntmps81, List.size_toArray, List.length_cons, List.length_nil, Nat.reduceAdd, Nat.reduceSub, Array.replicate_succ, Array.replicate_zero, List.push_toArray, List.append_toArray, List.nil_append, List.cons_append]
  gi_wp2_with fail
  revert HM0 HJ0 HN0 HXN0 HS0
  generalize W.alloc (.cells #[.int .u64 (hI px), .int .u64 (lI px), .int .i64 pn] 45) = V1
  intro HM0 HJ0 HN0 HXN0 HS0
  clear a0 a1 a2 v0
  have KU := HKU.out px pn l.length V1 (Nat.le_refl _) HM0.out.r
  rw [List.take_length] at KU
  refine ⟨trivial, fun q => (by cases q), ?_⟩
  refine (callsIn_wide.2 KU).mono ?_
  rintro e V2 ⟨⟨k0, hk0, rfl⟩, hb⟩
  have HM2 := hidX (HM0.out.below hb)
  have HJ2 := hidX (HJ.out _ _ _ HJ0.out (Gw.of hb))
  have HN2 := hidX ((hb.block _ (blk_lt5 HN0.out)).trans HN0.out)
  have HXN2 := hidX (HQ.out _ _ _ HJ0.out (Gw.of hb) _ HXN0.out)
  have HU2 := hidX (up_first HT.out.1 HT.out.2.1 HT.out.2.2 hk0)
  clear KU hk0 hb HM0 HJ0 HN0 HS0 HXN0
  gi_wp2_with fail
  gi_loopw [5] (fun rv wr => ∃ (k : Nat) (nx : BitVec 128) (nn : Int) (pre : List Rte), rv = .slice (some ⟨b, off, none⟩) k c ∧ Hid (UpS F l px pn nx nn k pre) ∧ Hid (J pre wr) ∧ Hid (¬ Xc wr W.heap.size) ∧ Hid (UwM P5 L5 b off c px pn l wr) ∧ Hid (wr.heap[W.heap.size]? = some (.cells #[.int .u64 (hI nx), .int .u64 (lI nx), .int .i64 nn] 45))) (fun rv _ => sLen rv)
  case atStart => exact ⟨k0, px, pn, [], rfl, HU2, HJ2, HXN2, HM2, HN2⟩
  case round =>
    clear HU2 HJ2 HM2 HN2 HXN2
    obtain ⟨k, nx, nn, pre, rfl, HU, HJw, HXw, HMw, HNw⟩ := hrel
    cases k with
    | zero =>
      have HE : Hid (pre = (l.filter (inR px pn)).reverse) := hidX (up_end HU.out)
      clear HU HMw HNw HXw
      gi_wp2
      go_end0
      exact ⟨⟨_, rfl⟩, .inl ⟨_, HE.out, HJw.out⟩⟩
    | succ k =>
      have hkl : k < l.length := HU.out.kl
      have HUs := hidX (fun k' hU => up_step hF HT.out.1 HT.out.2.1 HT.out.2.2 HU.out (k' := k') hkl hU)
      obtain ⟨x0, x1, x2, x3⟩ := rwr_cells HMw.out.r k hkl
      have Hpx : Hid (inR px pn l[k] = true → pre ++ [l[k]] <+: (l.filter (inR px pn)).reverse) := hidX (fun q => by
        have e := HU.out.pr
        have hd := List.drop_eq_getElem_cons hkl
        refine ⟨((l.take k).filter (inR px pn)).reverse, ?_⟩
        have sp : l.filter (inR px pn) = (l.take k).filter (inR px pn) ++ (l[k] :: (l.drop (k + 1)).filter (inR px pn)) := by
          conv => lhs; rw [← List.take_append_drop k l, List.filter_append, hd, List.filter_cons_of_pos q]
        rw [sp, e]
        simp)
      have same : withinB nx nn l[k].1.1 l[k].1.2 = inR px pn l[k] := by
        obtain ⟨k', hk'⟩ : ∃ k', UpTo (cutW nx (meetN nx nn l[k].1.1 l[k].1.2)) (meetN nx nn l[k].1.1 l[k].1.2) (l.take k) k' := UpTo_ex _ _ _ (ord_take HT.out.1 _)
        exact (HUs.out k' hk').1
      have HKW := hidX (fun w => pwithin_any nx nn l[k].1.1 l[k].1.2 w)
      rw [same] at HKW
      have HKM := hidX (fun w => pmeet_any nx nn l[k].1.1 l[k].1.2 w)
      have HKT := hidX (fun w h => HKU.out (cutW nx (meetN nx nn l[k].1.1 l[k].1.2)) (meetN nx nn l[k].1.1 l[k].1.2) k w (by omega) h)
      have HUt : Hid (∀ k', UpTo (cutW nx (meetN nx nn l[k].1.1 l[k].1.2)) (meetN nx nn l[k].1.1 l[k].1.2) (l.take k) k' → UpS F l px pn (cutW nx (meetN nx nn l[k].1.1 l[k].1.2)) (meetN nx nn l[k].1.1 l[k].1.2) k' (pre ++ if inR px pn l[k] = true then [l[k]] else [])) := hidX (fun k' h => (HUs.out k' h).2)
      have HYk := hidX (fun V hJ => HY.out pre l[k] V hJ)
      clear HUs same HU
      have hle := HKT
      revert x0 x1 x2 x3 Hpx HKW HKM HKT HUt HYk
      generalize cutW nx (meetN nx nn l[k].1.1 l[k].1.2) = mx
      generalize meetN nx nn l[k].1.1 l[k].1.2 = mn
      clear hle
      generalize inR px pn l[k] = bb
      generalize l[k] = r
      obtain ⟨⟨rx, rn⟩, rh⟩ := r
      intro x0 x1 x2 x3 Hpx HKW HKM HKT HUt HYk
      dsimp only at x0 x1 x2 x3
      have wk : IntKind.i64.wrap ((k : Int) + 1 - 1) = (k : Int) := by rw [IntKind.wrap_i64]; omega
      have wk2 : IntKind.i64.wrap (k : Int) = (k : Int) := by rw [IntKind.wrap_i64]; omega
      have hk0 : (0 : Int) ≤ (k : Int) := by omega
      have hk1 : (k : Int) < (k : Int) + 1 := by omega
      have hk2 : (k : Int) ≤ (c : Int) := by omega
      have q5 := bl1 wr (.cells #[.int .u64 (hI rx), .int .u64 (lI rx), .int .i64 rn, .int .i64 rh] 47)
      have HM5 := hidX (HMw.out.below q5)
      have hWr : W.heap.size < wr.heap.size := blk_lt5 HNw.out
      have HJ5 := hidX (HJ.out _ _ _ HJw.out (Gw.of q5))
      have HN5 := hidX ((q5.block _ hWr).trans HNw.out)
      have HXN5 := hidX (HQ.out _ _ _ HJw.out (Gw.of q5) _ HXw.out)
      have HXB5 := hidX (HQ.out _ _ _ HJw.out (Gw.of q5) wr.heap.size (fun q => by have := HC3.out _ _ HJw.out _ q; omega))
      have HX5 : Hid ((wr.alloc (.cells #[.int .u64 (hI rx), .int .u64 (lI rx), .int .i64 rn, .int .i64 rh] 47)).heap[wr.heap.size]? = some (.cells #[.int .u64 (hI rx), .int .u64 (lI rx), .int .i64 rn, .int .i64 rh] 47)) := hidX Array.getElem?_push_size
      have c0 := at_blk HNw.out 0 (.int .u64 (hI nx)) rfl
      have c1 := at_blk HNw.out 1 (.int .u64 (lI nx)) rfl
      have c2 := at_blk HNw.out 2 (.int .i64 nn) rfl
      clear q5 HMw HJw HNw HXw
      gi_wp2_with fail
      clear x0 x1 x2 x3 c0 c1 c2
      revert HM5 HJ5 HN5 HXN5 HXB5 HX5 hWr
      generalize wr.alloc (.cells #[.int .u64 (hI rx), .int .u64 (lI rx), .int .i64 rn, .int .i64 rh] 47) = V5
      generalize wr.heap.size = B7
      intro HM5 hWr HJ5 HN5 HXN5 HXB5 HX5
      refine ⟨trivial, fun q => (by cases q), ?_⟩
      refine (callsIn_wide.2 (HKW.out V5)).mono ?_
      rintro e V6 ⟨rfl, hb⟩
      have HM6 := hidX (HM5.out.below hb)
      have HJ6 := hidX (HJ.out _ _ _ HJ5.out (Gw.of hb))
      have HN6 := hidX ((hb.block _ (blk_lt5 HN5.out)).trans HN5.out)
      have HX6 := hidX ((hb.block _ (blk_lt5 HX5.out)).trans HX5.out)
      have HXN6 := hidX (HQ.out _ _ _ HJ5.out (Gw.of hb) _ HXN5.out)
      have HXB6 := hidX (HQ.out _ _ _ HJ5.out (Gw.of hb) _ HXB5.out)
      clear hb HM5 HJ5 HN5 HX5 HKW HXN5 HXB5
      cases bb with
      | false =>
        have HU7 : Hid (∀ k', UpTo mx mn (l.take k) k' → UpS F l px pn mx mn k' pre) := hidX (fun k' h => by have := HUt.out k' h; simpa using this)
        have HM7 := HM6
        have HJ7 := HJ6
        have HN7 := HN6
        have HX7 := HX6
        have HXN7 := HXN6
        clear HM6 HJ6 HN6 HX6 HUt Hpx HYk HXN6 HXB6
        obtain ⟨V7, hV7⟩ : ∃ V7, V7 = V6 := ⟨_, rfl⟩
        rw [← hV7] at HM7 HJ7 HN7 HX7 HXN7 ⊢
        clear hV7
        gi_wp2_with fail
        refine ⟨fun f h => (by cases h), ?_⟩
        have c0 := at_blk HN7.out 0 (.int .u64 (hI nx)) rfl
        have c1 := at_blk HN7.out 1 (.int .u64 (lI nx)) rfl
        have c2 := at_blk HN7.out 2 (.int .i64 nn) rfl
        have r0 := at_blk HX7.out 0 (.int .u64 (hI rx)) rfl
        have r1 := at_blk HX7.out 1 (.int .u64 (lI rx)) rfl
        have r2 := at_blk HX7.out 2 (.int .i64 rn) rfl
        gi_wp2_with fail
        refine ⟨trivial, fun q => (by cases q), ?_⟩
        refine (callsIn_wide.2 (HKM.out V7)).mono ?_
        rintro e V8 ⟨rfl, hb⟩
        have hN8 := (hb.block _ (blk_lt5 HN7.out)).trans HN7.out
        have hW8 : W.heap.size < V8.heap.size := blk_lt5 hN8
        have hM8 := HM7.out.below hb
        have e0 := at_blk hN8 0 (.int .u64 (hI nx)) rfl
        have e1 := at_blk hN8 1 (.int .u64 (lI nx)) rfl
        have e2 := at_blk hN8 2 (.int .i64 nn) rfl
        have f0 := fr_blk5 (j := 0) hN8
        have f1 := fr_blk5 (j := 1) hN8
        have f2 := fr_blk5 (j := 2) hN8
        have HN9 : Hid ((((V8.setCell ⟨W.heap.size, 0, none⟩ (.int .u64 (hI mx))).setCell ⟨W.heap.size, 1, none⟩ (.int .u64 (lI mx))).setCell ⟨W.heap.size, 2, none⟩ (.int .i64 mn)).heap[W.heap.size]? = some (.cells #[.int .u64 (hI mx), .int .u64 (lI mx), .int .i64 mn] 45)) := hidX (by simpa using set_blk5 (o := 2) (set_blk5 (o := 1) (set_blk5 (o := 0) hN8 (.int .u64 (hI mx))) (.int .u64 (lI mx))) (.int .i64 mn))
        have hJ8 := HJ.out _ _ _ HJ7.out (Gw.of hb)
        have hg8 : Gw 45 W.heap.size V8 (((V8.setCell ⟨W.heap.size, 0, none⟩ (.int .u64 (hI mx))).setCell ⟨W.heap.size, 1, none⟩ (.int .u64 (lI mx))).setCell ⟨W.heap.size, 2, none⟩ (.int .i64 mn)) := ((gw_set (o := 0) (Nat.le_refl _) hN8 (.int .u64 (hI mx))).trans ((gw_set (o := 1) (Nat.le_refl _) (set_blk5 hN8 _) (.int .u64 (lI mx))).trans (gw_set (o := 2) (Nat.le_refl _) (set_blk5 (set_blk5 hN8 _) _) (.int .i64 mn))))
        have HJ9 := hidX (HJ.out _ _ _ hJ8 hg8)
        have HXN9 := hidX (HQ.out _ _ _ hJ8 hg8 _ (HQ.out _ _ _ HJ7.out (Gw.of hb) _ HXN7.out))
        have HM9 := hidX (hM8.own HV.out.1 HV.out.2.1 (HV.out.2.2 (by omega)) (.int .u64 (hI mx)) (.int .u64 (lI mx)) (.int .i64 mn))
        clear hb hN8 hM8 HN7 HJ7 HM7 HX7 HXN7 hJ8 hg8 c0 c1 c2 r0 r1 r2 HKM
        gi_wp2_with fail
        clear e0 e1 e2 f0 f1 f2
        revert HN9 HJ9 HXN9 HM9
        generalize ((V8.setCell ⟨W.heap.size, 0, none⟩ (.int .u64 (hI mx))).setCell ⟨W.heap.size, 1, none⟩ (.int .u64 (lI mx))).setCell ⟨W.heap.size, 2, none⟩ (.int .i64 mn) = V9
        intro HN9 HJ9 HXN9 HM9
        have HD9 : Hid (∀ X, Below V9.heap.size V9 X → UwM P5 L5 b off c px pn l X ∧ X.heap[W.heap.size]? = some (.cells #[.int .u64 (hI mx), .int .u64 (lI mx), .int .i64 mn] 45)) := hidX (fun X hb => ⟨HM9.out.below hb, (hb.block _ (blk_lt5 HN9.out)).trans HN9.out⟩)
        obtain ⟨k', hk'⟩ : ∃ k', UpTo mx mn (l.take k) k' := UpTo_ex _ _ _ (ord_take HT.out.1 _)
        have hk8 : k' ≤ k := by have := hk'.1; rw [List.length_take] at this; omega
        have HKT9 := hidX (fun w h => (HKT.out w h).mono (fun e w' (hh : (∃ k2 : Nat, UpTo mx mn (l.take k) k2 ∧ e = .returned (.slice (some ⟨b, off, none⟩) k2 c)) ∧ Below w.heap.size w w') => (show e = .returned (.slice (some ⟨b, off, none⟩) k' c) ∧ Below w.heap.size w w' from by
          obtain ⟨⟨k2, h1, rfl⟩, h2⟩ := hh
          exact ⟨by rw [UpTo_one hk' h1], h2⟩)))
        have HU9 := hidX (HU7.out k' hk')
        clear hk' HKT HU7
        refine wpIn_wide.2 ?_
        refine qw_region (C := fun X => Below V9.heap.size V9 X) (by kernel_rfl) (by kernel_rfl) (below_drewN (Below.refl _ _) 1) ?_
        refine qw_run (v := .slice (some ⟨b, off, none⟩) (k + 1) c) (by rfl) ?_ ?_
        · (intro w1 hC; clear hC; go_simp; first | done | (simp; done) | (simp [*]; done) | omega | (simp; omega) | rfl)
        simp only [Act.put, List.setIfInBounds_toArray, List.set_cons_zero, List.set_cons_succ]
        refine qw_run (v := .int .i64 (k : Int)) (by rfl) ?_ ?_
        · (intro w1 hC; clear hC; go_simp; first | done | (simp; done) | (simp [*]; done) | omega | (simp; omega) | rfl)
        simp only [Act.put, List.setIfInBounds_toArray, List.set_cons_zero, List.set_cons_succ]
        refine qw_run (v := .slice (some ⟨b, off, none⟩) k c) (by rfl) ?_ ?_
        · (intro w1 hC; clear hC; go_simp; first | done | (simp; done) | (simp [*]; done) | omega | (simp; omega) | rfl)
        simp only [Act.put, List.setIfInBounds_toArray, List.set_cons_zero, List.set_cons_succ]
        refine qw_run (v := .agg #[.int .u64 (hI mx), .int .u64 (lI mx), .int .i64 mn]) (by rfl) ?_ ?_
        · (intro w1 hC; have f0 := at_blk (HD9.out _ hC).2 0 (.int .u64 (hI mx)) rfl; have f1 := at_blk (HD9.out _ hC).2 1 (.int .u64 (lI mx)) rfl; have f2 := at_blk (HD9.out _ hC).2 2 (.int .i64 mn) rfl; clear hC; go_simp; first | done | (simp; done) | (simp [*]; done) | omega | (simp; omega) | rfl)
        simp only [Act.put, List.setIfInBounds_toArray, List.set_cons_zero, List.set_cons_succ]
        refine qw_call (v := .slice (some ⟨b, off, none⟩) k' c) (f := 82) (args := #[.slice (some ⟨b, off, none⟩) k c, .agg #[.int .u64 (hI mx), .int .u64 (lI mx), .int .i64 mn]]) (by rfl) ?_ ?_ ?_
        · (intro w1 hC; clear hC; go_simp)
        · exact fun w1 hC => (HKT9.out w1 (HD9.out _ hC).1.r).mono fun e w' ⟨he, hb⟩ => ⟨he, keepb hb hC⟩
        simp only [Act.put, List.setIfInBounds_toArray, List.set_cons_zero, List.set_cons_succ]
        refine qw_run (v := .slice (some ⟨b, off, none⟩) k' c) (by rfl) ?_ ?_
        · (intro w1 hC; clear hC; go_simp; first | done | (simp; done) | (simp [*]; done) | omega | (simp; omega) | rfl)
        simp only [Act.put, List.setIfInBounds_toArray, List.set_cons_zero, List.set_cons_succ]
        refine qw_nil ?_
        intro X9 hC9
        have HM10 := hidX (HM9.out.below hC9)
        have HJ10 := hidX (HJ.out _ _ _ HJ9.out (Gw.of hC9))
        have HN10 := hidX ((hC9.block _ (blk_lt5 HN9.out)).trans HN9.out)
        have HXN10 := hidX (HQ.out _ _ _ HJ9.out (Gw.of hC9) _ HXN9.out)
        clear hC9 HD9 HM9 HJ9 HN9 HKT9 HXN9
        gi_wp2
        go_roundw
        case rel => exact ⟨k', mx, mn, _, rfl, HU9, HJ10, HXN10, HM10, HN10⟩
        case measure => simp [sLen]; omega
      | true =>
        have HU7 : Hid (∀ k', UpTo mx mn (l.take k) k' → UpS F l px pn mx mn k' (pre ++ [((rx, rn), rh)])) := hidX (fun k' h => by have := HUt.out k' h; simpa using this)
        have HPx := hidX (Hpx.out rfl)
        obtain ⟨fn, tmps, assign, body, hy, hR⟩ := HYk.out V6 HJ6.out HPx.out
        dsimp only [encR] at hy
        have r0 := at_blk HX6.out 0 (.int .u64 (hI rx)) rfl
        have r1 := at_blk HX6.out 1 (.int .u64 (lI rx)) rfl
        have r2 := at_blk HX6.out 2 (.int .i64 rn) rfl
        have r3 := at_blk HX6.out 3 (.int .i64 rh) rfl
        gi_wp2
        refine ⟨fun q => (by cases q), hR.mono ?_⟩
        rintro e V7 (⟨rfl, hJ7, hk7⟩ | ⟨rfl, hx7⟩)
        · have HM7 := hidX (HM6.out.kx hk7 (fun z hz q => HC1.out _ _ HJ6.out z hz q))
          have HXN7 := hidX (fun q => (hk7.2.2 _ q).elim HXN6.out (fun q2 => by have := blk_lt5 HN6.out; omega))
          have HJ7 := hidX hJ7
          have HN7 := hidX (hk7.2.1 _ _ HN6.out HXN6.out)
          have HX7 := hidX (hk7.2.1 _ _ HX6.out HXB6.out)
          clear hJ7 hk7 hy hR HM6 HJ6 HN6 HX6 HUt Hpx HYk r0 r1 r2 r3 HXN6 HXB6
          have c0 := at_blk HN7.out 0 (.int .u64 (hI nx)) rfl
          have c1 := at_blk HN7.out 1 (.int .u64 (lI nx)) rfl
          have c2 := at_blk HN7.out 2 (.int .i64 nn) rfl
          have r0 := at_blk HX7.out 0 (.int .u64 (hI rx)) rfl
          have r1 := at_blk HX7.out 1 (.int .u64 (lI rx)) rfl
          have r2 := at_blk HX7.out 2 (.int .i64 rn) rfl
          gi_wp2_with fail
          refine ⟨trivial, fun q => (by cases q), ?_⟩
          refine (callsIn_wide.2 (HKM.out V7)).mono ?_
          rintro e V8 ⟨rfl, hb⟩
          have hN8 := (hb.block _ (blk_lt5 HN7.out)).trans HN7.out
          have hW8 : W.heap.size < V8.heap.size := blk_lt5 hN8
          have hM8 := HM7.out.below hb
          have e0 := at_blk hN8 0 (.int .u64 (hI nx)) rfl
          have e1 := at_blk hN8 1 (.int .u64 (lI nx)) rfl
          have e2 := at_blk hN8 2 (.int .i64 nn) rfl
          have f0 := fr_blk5 (j := 0) hN8
          have f1 := fr_blk5 (j := 1) hN8
          have f2 := fr_blk5 (j := 2) hN8
          have HN9 : Hid ((((V8.setCell ⟨W.heap.size, 0, none⟩ (.int .u64 (hI mx))).setCell ⟨W.heap.size, 1, none⟩ (.int .u64 (lI mx))).setCell ⟨W.heap.size, 2, none⟩ (.int .i64 mn)).heap[W.heap.size]? = some (.cells #[.int .u64 (hI mx), .int .u64 (lI mx), .int .i64 mn] 45)) := hidX (by simpa using set_blk5 (o := 2) (set_blk5 (o := 1) (set_blk5 (o := 0) hN8 (.int .u64 (hI mx))) (.int .u64 (lI mx))) (.int .i64 mn))
          have hJ8 := HJ.out _ _ _ HJ7.out (Gw.of hb)
          have hg8 : Gw 45 W.heap.size V8 (((V8.setCell ⟨W.heap.size, 0, none⟩ (.int .u64 (hI mx))).setCell ⟨W.heap.size, 1, none⟩ (.int .u64 (lI mx))).setCell ⟨W.heap.size, 2, none⟩ (.int .i64 mn)) := ((gw_set (o := 0) (Nat.le_refl _) hN8 (.int .u64 (hI mx))).trans ((gw_set (o := 1) (Nat.le_refl _) (set_blk5 hN8 _) (.int .u64 (lI mx))).trans (gw_set (o := 2) (Nat.le_refl _) (set_blk5 (set_blk5 hN8 _) _) (.int .i64 mn))))
          have HJ9 := hidX (HJ.out _ _ _ hJ8 hg8)
          have HXN9 := hidX (HQ.out _ _ _ hJ8 hg8 _ (HQ.out _ _ _ HJ7.out (Gw.of hb) _ HXN7.out))
          have HM9 := hidX (hM8.own HV.out.1 HV.out.2.1 (HV.out.2.2 (by omega)) (.int .u64 (hI mx)) (.int .u64 (lI mx)) (.int .i64 mn))
          clear hb hN8 hM8 HN7 HJ7 HM7 HX7 HXN7 hJ8 hg8 c0 c1 c2 r0 r1 r2 HKM
          gi_wp2_with fail
          clear e0 e1 e2 f0 f1 f2
          revert HN9 HJ9 HXN9 HM9
          generalize ((V8.setCell ⟨W.heap.size, 0, none⟩ (.int .u64 (hI mx))).setCell ⟨W.heap.size, 1, none⟩ (.int .u64 (lI mx))).setCell ⟨W.heap.size, 2, none⟩ (.int .i64 mn) = V9
          intro HN9 HJ9 HXN9 HM9
          have HD9 : Hid (∀ X, Below V9.heap.size V9 X → UwM P5 L5 b off c px pn l X ∧ X.heap[W.heap.size]? = some (.cells #[.int .u64 (hI mx), .int .u64 (lI mx), .int .i64 mn] 45)) := hidX (fun X hb => ⟨HM9.out.below hb, (hb.block _ (blk_lt5 HN9.out)).trans HN9.out⟩)
          obtain ⟨k', hk'⟩ : ∃ k', UpTo mx mn (l.take k) k' := UpTo_ex _ _ _ (ord_take HT.out.1 _)
          have hk8 : k' ≤ k := by have := hk'.1; rw [List.length_take] at this; omega
          have HKT9 := hidX (fun w h => (HKT.out w h).mono (fun e w' (hh : (∃ k2 : Nat, UpTo mx mn (l.take k) k2 ∧ e = .returned (.slice (some ⟨b, off, none⟩) k2 c)) ∧ Below w.heap.size w w') => (show e = .returned (.slice (some ⟨b, off, none⟩) k' c) ∧ Below w.heap.size w w' from by
            obtain ⟨⟨k2, h1, rfl⟩, h2⟩ := hh
            exact ⟨by rw [UpTo_one hk' h1], h2⟩)))
          have HU9 := hidX (HU7.out k' hk')
          clear hk' HKT HU7
          refine wpIn_wide.2 ?_
          refine qw_region (C := fun X => Below V9.heap.size V9 X) (by kernel_rfl) (by kernel_rfl) (below_drewN (Below.refl _ _) 1) ?_
          refine qw_run (v := .slice (some ⟨b, off, none⟩) (k + 1) c) (by rfl) ?_ ?_
          · (intro w1 hC; clear hC; go_simp; first | done | (simp; done) | (simp [*]; done) | omega | (simp; omega) | rfl)
          simp only [Act.put, List.setIfInBounds_toArray, List.set_cons_zero, List.set_cons_succ]
          refine qw_run (v := .int .i64 (k : Int)) (by rfl) ?_ ?_
          · (intro w1 hC; clear hC; go_simp; first | done | (simp; done) | (simp [*]; done) | omega | (simp; omega) | rfl)
          simp only [Act.put, List.setIfInBounds_toArray, List.set_cons_zero, List.set_cons_succ]
          refine qw_run (v := .slice (some ⟨b, off, none⟩) k c) (by rfl) ?_ ?_
          · (intro w1 hC; clear hC; go_simp; first | done | (simp; done) | (simp [*]; done) | omega | (simp; omega) | rfl)
          simp only [Act.put, List.setIfInBounds_toArray, List.set_cons_zero, List.set_cons_succ]
          refine qw_run (v := .agg #[.int .u64 (hI mx), .int .u64 (lI mx), .int .i64 mn]) (by rfl) ?_ ?_
          · (intro w1 hC; have f0 := at_blk (HD9.out _ hC).2 0 (.int .u64 (hI mx)) rfl; have f1 := at_blk (HD9.out _ hC).2 1 (.int .u64 (lI mx)) rfl; have f2 := at_blk (HD9.out _ hC).2 2 (.int .i64 mn) rfl; clear hC; go_simp; first | done | (simp; done) | (simp [*]; done) | omega | (simp; omega) | rfl)
          simp only [Act.put, List.setIfInBounds_toArray, List.set_cons_zero, List.set_cons_succ]
          refine qw_call (v := .slice (some ⟨b, off, none⟩) k' c) (f := 82) (args := #[.slice (some ⟨b, off, none⟩) k c, .agg #[.int .u64 (hI mx), .int .u64 (lI mx), .int .i64 mn]]) (by rfl) ?_ ?_ ?_
          · (intro w1 hC; clear hC; go_simp)
          · exact fun w1 hC => (HKT9.out w1 (HD9.out _ hC).1.r).mono fun e w' ⟨he, hb⟩ => ⟨he, keepb hb hC⟩
          simp only [Act.put, List.setIfInBounds_toArray, List.set_cons_zero, List.set_cons_succ]
          refine qw_run (v := .slice (some ⟨b, off, none⟩) k' c) (by rfl) ?_ ?_
          · (intro w1 hC; clear hC; go_simp; first | done | (simp; done) | (simp [*]; done) | omega | (simp; omega) | rfl)
          simp only [Act.put, List.setIfInBounds_toArray, List.set_cons_zero, List.set_cons_succ]
          refine qw_nil ?_
          intro X9 hC9
          have HM10 := hidX (HM9.out.below hC9)
          have HJ10 := hidX (HJ.out _ _ _ HJ9.out (Gw.of hC9))
          have HN10 := hidX ((hC9.block _ (blk_lt5 HN9.out)).trans HN9.out)
          have HXN10 := hidX (HQ.out _ _ _ HJ9.out (Gw.of hC9) _ HXN9.out)
          clear hC9 HD9 HM9 HJ9 HN9 HKT9 HXN9
          gi_wp2
          go_roundw
          case rel => exact ⟨k', mx, mn, _, rfl, HU9, HJ10, HXN10, HM10, HN10⟩
          case measure => simp [sLen]; omega
        · have HX3 := hidX hx7
          clear hx7 hy hR HM6 HJ6 HN6 HX6 HU7 HUt r0 r1 r2 r3 HXN6 HXB6
          gi_wp2
          exact bodyPost_ret (v := .tuple #[]) (by simp [results, Tryz.results81, go_sem]) rfl ⟨⟨_, rfl⟩, .inr ⟨_, HPx.out, HX3.out⟩⟩
end Go.Proofs.YtpiicdpipjjenaaGreatDoor
namespace Go.Proofs.YtpiicdpipjjenaaGreatDoor
open Go.RowKit
set_option linter.unusedSimpArgs false
set_option linter.unusedVariables false

end Go.Proofs.YtpiicdpipjjenaaGreatDoor
namespace Go.Proofs.YtpiicdpipjjenaaGreatDoor
open Go.RowKit
set_option linter.unusedSimpArgs false
set_option linter.unusedVariables false

end Go.Proofs.YtpiicdpipjjenaaGreatDoor
namespace Go.Proofs.YtpiicdpipjjenaaGreatDoor
set_option linter.unusedSimpArgs false
set_option linter.unusedVariables false

end Go.Proofs.YtpiicdpipjjenaaGreatDoor
namespace Go.Proofs.YtpiicdpipjjenaaGreatDoor
set_option linter.unusedSimpArgs false
set_option linter.unusedVariables false

end Go.Proofs.YtpiicdpipjjenaaGreatDoor
namespace Go.Proofs.YtpiicdpipjjenaaGreatDoor
set_option linter.unusedSimpArgs false
set_option linter.unusedVariables false

end Go.Proofs.YtpiicdpipjjenaaGreatDoor
namespace Go.Proofs.YtpiicdpipjjenaaGreatDoor
open Go.RowKit
set_option linter.unusedSimpArgs false
set_option linter.unusedVariables false

def AtV (W : World) (B : Nat) (x : BitVec 128) (n h : Int) : Prop := AtR W B x n h ∧ W.frozen? ⟨B, 0, none⟩ = false ∧ W.frozen? ⟨B, 1, none⟩ = false ∧ W.frozen? ⟨B, 2, none⟩ = false ∧ W.frozen? ⟨B, 3, none⟩ = false
theorem AtV.heap {W W' : World} {B : Nat} {x : BitVec 128} {n h : Int} (k : AtV W B x n h) (e : W'.heap[B]? = W.heap[B]?) : AtV W' B x n h := by
  obtain ⟨k0, k1, k2, k3, k4⟩ := k
  exact ⟨k0.heap e, by rw [frozH e]; exact k1, by rw [frozH e]; exact k2, by rw [frozH e]; exact k3, by rw [frozH e]; exact k4⟩
theorem AtV.lt {W : World} {B : Nat} {x : BitVec 128} {n h : Int} (k : AtV W B x n h) : B < W.heap.size := cell_in k.1.1
theorem AtV.set4 {W : World} {B : Nat} {x : BitVec 128} {n h : Int} (k : AtV W B x n h) (y : BitVec 128) (m g : Int) : AtV ((((W.setCell ⟨B, 0, none⟩ (.int .u64 (hI y))).setCell ⟨B, 1, none⟩ (.int .u64 (lI y))).setCell ⟨B, 2, none⟩ (.int .i64 m)).setCell ⟨B, 3, none⟩ (.int .i64 g)) B y m g := by
  obtain ⟨⟨c0, c1, c2, c3⟩, k1, k2, k3, k4⟩ := k
  refine ⟨⟨?_, ?_, ?_, ?_⟩, ?_, ?_, ?_, ?_⟩ <;> simp [go_sem, c0, c1, c2, c3, k1, k2, k3, k4]
theorem hSet4 {W : World} {B : Nat} {u0 u1 u2 u3 : Value} {k : Nat} (h : ¬ k = B) : ((((W.setCell ⟨B, 0, none⟩ u0).setCell ⟨B, 1, none⟩ u1).setCell ⟨B, 2, none⟩ u2).setCell ⟨B, 3, none⟩ u3).heap[k]? = W.heap[k]? := by
  rw [hSet _ h, hSet _ h, hSet _ h, hSet _ h]
theorem bset4m {n C : Nat} {w W : World} (h : Below n w W) (hp : n ≤ C) (u0 u1 u2 u3 : Value) : Below n w ((((W.setCell ⟨C, 0, none⟩ u0).setCell ⟨C, 1, none⟩ u1).setCell ⟨C, 2, none⟩ u2).setCell ⟨C, 3, none⟩ u3) := (((h.setCell hp _).setCell hp _).setCell hp _).setCell hp _
structure MtI (w : World) (F : Int) (v : Value) (x : BitVec 128) (bx : BitVec 128) (bn bh : Int) (W : World) : Prop where
  t : AtU W w.heap.size F v
  p : At W (w.heap.size + 1) x
  z : AtV W (w.heap.size + 2) 0#128 0 0
  b : AtV W (w.heap.size + 3) bx bn bh
  bel : Below w.heap.size w W
theorem MtI.below {w : World} {F : Int} {v : Value} {x : BitVec 128} {bx : BitVec 128} {bn bh : Int} {W W' : World} (k : MtI w F v x bx bn bh W) (hb : Below W.heap.size W W') : MtI w F v x bx bn bh W' :=
  ⟨k.t.heap (hb.block _ k.t.lt), k.p.below hb, k.z.heap (hb.block _ k.z.lt), k.b.heap (hb.block _ k.b.lt), keepb hb k.bel⟩
theorem MtI.take {w : World} {F : Int} {v : Value} {x : BitVec 128} {bx : BitVec 128} {bn bh : Int} {W : World} (k : MtI w F v x bx bn bh W) (y : BitVec 128) (m g : Int) : MtI w F v x y m g ((((W.setCell ⟨w.heap.size + 3, 0, none⟩ (.int .u64 (hI y))).setCell ⟨w.heap.size + 3, 1, none⟩ (.int .u64 (lI y))).setCell ⟨w.heap.size + 3, 2, none⟩ (.int .i64 m)).setCell ⟨w.heap.size + 3, 3, none⟩ (.int .i64 g)) := by
  have hb : Below W.heap.size W W := Below.refl _ _
  refine ⟨k.t.heap (hSet4 (by omega)), k.p.heap (hSet4 (by omega)) (by have := (bset4m (C := w.heap.size + 3) (Below.refl 0 W) (Nat.zero_le _) (.int .u64 (hI y)) (.int .u64 (lI y)) (.int .i64 m) (.int .i64 g)).size; exact this), k.z.heap (hSet4 (by omega)), k.b.set4 y m g, bset4m k.bel (by omega) _ _ _ _⟩
def MtC (P N B : Nat) (px : BitVec 128) (pn ph : Int) (x bx : BitVec 128) (bn bh : Int) (V W : World) : Prop := AtR W N px pn ph ∧ (W.cell? ⟨P, 0, none⟩ = some (.int .u64 (hI x)) ∧ W.cell? ⟨P, 1, none⟩ = some (.int .u64 (lI x))) ∧ AtR W B bx bn bh ∧ Below V.heap.size V W
theorem MtC.below {P N B : Nat} {px : BitVec 128} {pn ph : Int} {x bx : BitVec 128} {bn bh : Int} {V W W' : World} (k : MtC P N B px pn ph x bx bn bh V W) (hb : Below W.heap.size W W') : MtC P N B px pn ph x bx bn bh V W' := ⟨k.1.below hb, ⟨keepc hb k.2.1.1, keepc hb k.2.1.2⟩, k.2.2.1.below hb, keepb hb k.2.2.2⟩
theorem MtC.drew {P N B : Nat} {px : BitVec 128} {pn ph : Int} {x bx : BitVec 128} {bn bh : Int} {V W : World} (k : MtC P N B px pn ph x bx bn bh V W) : MtC P N B px pn ph x bx bn bh V W.drew := k.below (below_drewN (Below.refl _ _) 1)
end Go.Proofs.YtpiicdpipjjenaaGreatDoor
