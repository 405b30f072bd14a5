/-
  Part 5 of the proof: 12 texts, one behind the other.
-/
import Derived.Test.YtiachojhnbicaaaDoorPart3
import Derived.Test.YtiachojhnbicaaaDoorPart1
import Derived.Lib.BitFns
import Derived.Test.YtiachojhnbicaaaDoorPart2
import Derived.Test.YtiachojhnbicaaaDoorPart4
import Derived.Deep.RegionHeld3
import Derived.Deep.AppendLies
import Derived.Laws.AppendOwnNone
import Derived.WalkLawsBesides
import Derived.ArgAppend
namespace Go.Proofs.YtiachojhnbicaaaDoor
open Go.RowKit
set_option linter.unusedSimpArgs false
set_option linter.unusedVariables false

theorem wp_append_rowA {P : Program} {w : World} {o : Oper} {a : Act} {K : Act → World → Prop} {Q : Exit → Act → World → Prop} (s x : Operand) (t : TypeId)
    (ho : o.op = .call { callee := .builtin .append, args := #[s, x], argTypes := #[t, t] })
    (base : Nat) (e : TypeId) (i : TypeInfo) (z : Value) (size bytes : Nat) (ht : P.underlying t = some (.slice e)) (hi : P.info? e = some i) (hz : i.zero = some z)
    (hsize : i.size = size) (hby : i.bytes = bytes) (hzs : z.cells.size = size) (hsz : 0 < size)
    (v : Value) (n : Nat) (xs : List Value) (hs : a.eval s = v) (hown : w.ownsRow base e size v n xs)
    (vx : Value) (m : Nat) (news : List Value) (hx : a.eval x = vx) (hsrc : RowA w size vx m news) (h1 : ∀ y ∈ news, y.oneCell' = true)
    (h63 : n + m ≤ maxLen) (hbytes : (n + m) * bytes ≤ 140737488355328) (hbase : base ≤ w.heap.size)
    (h : ∀ ao cap w', w'.ownsRow base e size (.slice ao (n + m) cap) (n + m) (xs ++ news) → w.grownBy w' v.ownBlock → K (a.put o.dst (.slice ao (n + m) cap)) w') : o.wp P a w K Q := by
  obtain ⟨hl, xo, c, rfl, hcc, hsrc⟩ := hsrc
  rcases hsrc with ⟨rfl, rfl, rfl⟩ | ⟨ad, rfl, hc⟩
  · have : news = [] := List.eq_nil_of_length_eq_zero (by omega)
    subst this
    have hrun := run_append_owned_none (P := P) (w := w) base t o.type e i size ht hi v n xs hown
    obtain ⟨ao, cp, hv⟩ := own_form hown
    have hh := h ao cp w (by rw [List.append_nil, Nat.add_zero, ← hv]; exact hown) ⟨rfl, rfl, rfl, Nat.le_refl _, fun _ _ _ => rfl⟩
    rw [Nat.add_zero, ← hv] at hh
    unfold Oper.wp
    simp [execOp, ho, resolve, invoke, builtin, hs, hx, hrun, Result.andThen]
    exact hh
  · refine wp_append_own w s x t ho base e i z size bytes ht hi hz hsize hby hzs hsz v n xs hs hown ad m c news hx hl hc h1 h63 hbytes hbase ?_
    intro v' w' h2 h3 _
    obtain ⟨ao, cp, hv⟩ := own_form h2
    rw [hv]
    rw [hv] at h2
    exact h ao cp w' h2 h3
end Go.Proofs.YtiachojhnbicaaaDoor
namespace Go.Proofs.YtiachojhnbicaaaDoor
open Go.RowKit
set_option linter.unusedSimpArgs false
set_option linter.unusedVariables false

end Go.Proofs.YtiachojhnbicaaaDoor
namespace Go.Proofs.YtiachojhnbicaaaDoor
open Go.RowKit
set_option linter.unusedSimpArgs false
set_option linter.unusedVariables false

structure PB where
  a : Int
  t : Int
  m : List (BitVec 32)
  es : List (Bool × Int)
end Go.Proofs.YtiachojhnbicaaaDoor
namespace Go.Proofs.YtiachojhnbicaaaDoor
open Go.RowKit
set_option linter.unusedSimpArgs false
set_option linter.unusedVariables false

end Go.Proofs.YtiachojhnbicaaaDoor
namespace Go.Proofs.YtiachojhnbicaaaDoor
open Go.RowKit
set_option linter.unusedSimpArgs false
set_option linter.unusedVariables false

theorem own_typed18 {W : World} {base e size n : Nat} {v : Value} {xs : List Value} (h : W.ownsRow base e size v n xs) (z : Nat) (hz : v.ownBlock = some z) : ∃ cs, W.heap[z]? = some (.cells cs e) := by
  rcases h.2 with ⟨e0, _⟩ | ⟨g, cap, cur, e0, hb, hg, rest⟩
  · rw [e0] at hz; cases hz
  · rw [e0] at hz
    have q : g = z := by simpa [Value.ownBlock] using hz
    subst q
    exact ⟨_, hg⟩
theorem own_not18 {W : World} {base e size n : Nat} {v : Value} {xs : List Value} (h : W.ownsRow base e size v n xs) {z : Nat} {cs : Array Value} {T : TypeId} {fr : Nat × Nat} (hz : W.heap[z]? = some (.cells cs T fr)) (he : e ≠ T) : v.ownBlock ≠ some z := by
  intro q
  obtain ⟨cs', h2⟩ := own_typed18 h z q
  rw [h2] at hz
  injection hz with hz
  injection hz with _ h2 _
  exact he h2
theorem own_keep18 {W W' : World} {base e size n : Nat} {v : Value} {xs : List Value} (h : W.ownsRow base e size v n xs) (he : ∀ g, v.ownBlock = some g → W'.heap[g]? = W.heap[g]?) : W'.ownsRow base e size v n xs := by
  refine ⟨h.1, ?_⟩
  rcases h.2 with hn | ⟨g, cap, cur, rfl, hb, hg, rest⟩
  · exact .inl hn
  · exact .inr ⟨g, cap, cur, rfl, hb, by rw [he g rfl]; exact hg, rest⟩
theorem own_put3 {W : World} {base e size n B : Nat} {v : Value} {xs : List Value} (h : W.ownsRow base e size v n xs) (hv : v.ownBlock ≠ some B) (u0 u1 u2 : Value) : (((W.setCell ⟨B, 0, none⟩ u0).setCell ⟨B, 1, none⟩ u1).setCell ⟨B, 2, none⟩ u2).ownsRow base e size v n xs :=
  own_keep18 h (fun g e => (far_16 (fun q => hv (by rw [← q]; exact e))).trans ((far_16 (fun q => hv (by rw [← q]; exact e))).trans (far_16 (fun q => hv (by rw [← q]; exact e)))))
end Go.Proofs.YtiachojhnbicaaaDoor
namespace Go.Proofs.YtiachojhnbicaaaDoor
open Go.RowKit Go.Shelf
set_option linter.unusedSimpArgs false
set_option linter.unusedVariables false

theorem rowA_take21 {W : World} {ao : Option Addr} {n c z : Nat} {l : List Nat} (h : RowA W 1 (.slice ao n c) n (l.map cB)) (hz : z ≤ n) : RowA W 1 (.slice ao z c) z ((l.take z).map cB) := by
  have := rowA_mid21 (k := 0) (z := z) h (by omega)
  rw [List.drop_zero, Nat.zero_mul] at this
  have e : (if c = 0 then ao else ao.map (·.add 0)) = ao := by
    split
    · rfl
    · cases ao with
      | none => rfl
      | some p => simp [Addr.add]
  rw [e] at this
  exact this
theorem rowA_from21 {W : World} {ao : Option Addr} {n c k : Nat} {l : List Nat} (h : RowA W 1 (.slice ao n c) n (l.map cB)) (hk : k ≤ n) : RowA W 1 (.slice (if c = k then ao else ao.map (·.add (k * 1))) (n - k) (c - k)) (n - k) ((l.drop k).map cB) := by
  have hl : l.length = n := by have := h.1; rw [List.length_map, Nat.mul_one] at this; exact this
  have := rowA_mid21 (k := k) (z := n - k) h (by omega)
  rw [List.take_of_length_le (by rw [List.length_drop]; omega)] at this
  exact this
end Go.Proofs.YtiachojhnbicaaaDoor
namespace Go.Proofs.YtiachojhnbicaaaDoor
open Go.RowKit Go.Shelf
set_option linter.unusedSimpArgs false
set_option linter.unusedVariables false
attribute [local go_sem] Oper.semAt_some

set_option maxRecDepth 100000 in
set_option maxHeartbeats 8000000 in
theorem rfit21 (n : Int) (v : Value) (L : List Pt) (w : World) (hn : 0 ≤ n) (hn2 : n ≤ 9223372036854775807) (hv : PtR21 w v L) (hl : L.length ≤ 140737488355328) :
    Calls Tryd.prog 19 #[.int .i64 n, v] w fun e w' => e = .returned (.bool (fitB n L)) ∧ Below w.heap.size w w' := by
  obtain ⟨ao, c, hvf, -⟩ := id hv
  subst hvf
  have HT := hid13 hv
  have HB : Hid (Below w.heap.size w w) := Below.refl _ _
  have HL : Hid (L.length ≤ 140737488355328 ∧ 0 ≤ n ∧ n ≤ 9223372036854775807) := ⟨hl, hn, hn2⟩
  clear hv hl hn hn2
  go_enter Tryd.func19, Tryd.ntmps19
  go_wp2
  go_loopg [0, 5] L.length (fun g s x wr => ∃ (k : Nat) (m : Int), k + g = L.length ∧ s = .int .i64 m ∧ x = .int .i64 (k : Int) ∧ Hid (ftS n (L.take k) = some m) ∧ Hid (PtR21 wr (.slice ao L.length c) L ∧ Below w.heap.size w wr))
  case atStart => exact ⟨0, n, by omega, rfl, rfl, rfl, ⟨HT.out, HB.out⟩⟩
  case round =>
    clear HT HB
    obtain ⟨k, m, hk, rfl, rfl, HM, HW⟩ := hrel
    by_cases hlt : k < L.length
    rotate_left 1
    · have l1 : ¬ (k : Int) < (L.length : Int) := by omega
      have HE : Hid (fitB n L = true) := ftS_all (by omega) HM.out
      clear hlt hk
      go_wp2
      go_ret
      exact ⟨by rw [HE.out]; rfl, HW.out.2⟩
    have l1 : (k : Int) < (L.length : Int) := by omega
    obtain ⟨p, hp⟩ : ∃ p, L[k]? = some p := ⟨L[k], by simp [hlt]⟩
    obtain ⟨b1, f1, xo, xc, hao, r0, r1, r2, -, -⟩ := ptr_at HW.out.1 hp
    subst hao
    have wk : IntKind.i64.wrap ((k : Int) + 1) = (k : Int) + 1 := by rw [IntKind.wrap_i64]; have := HL.out; omega
    have hm := ftS_bd HL.out.2.1 _ _ HM.out
    have HX : Hid (k < L.length ∧ k + gk = L.length ∧ 0 ≤ m ∧ m ≤ n) := ⟨hlt, hk, hm.1, hm.2⟩
    have HBad : Hid (¬ okP m p → fitB n L = false) := hid13 (ftS_bad hp HM.out)
    have HGo : Hid (okP m p → ftS n (L.take (k + 1)) = some (m - p.k - p.d)) := hid13 (ftS_go hp HM.out)
    clear hp hlt hk hm HM
    by_cases k0 : p.k < 0
    · have d0 : decide (p.k < 0) = true := decide_eq_true k0
      have HF := hid13 (HBad.out (fun h => by have := h.1; omega))
      clear k0
      go_wp2
      go_ret
      exact ⟨by rw [HF.out]; rfl, HW.out.2⟩
    have d0 : decide (p.k < 0) = false := decide_eq_false k0
    by_cases k1 : m < p.k
    · have d1 : decide (m < p.k) = true := decide_eq_true k1
      have HF := hid13 (HBad.out (fun h => by have := h.2.1; omega))
      clear k0 k1
      go_wp2
      go_ret
      exact ⟨by rw [HF.out]; rfl, HW.out.2⟩
    have d1 : decide (m < p.k) = false := decide_eq_false k1
    have w1 : IntKind.i64.wrap (m - p.k) = m - p.k := by rw [IntKind.wrap_i64]; have := HX.out; have := HL.out; omega
    by_cases k2 : p.d < 0
    · have d2 : decide (p.d < 0) = true := decide_eq_true k2
      have HF := hid13 (HBad.out (fun h => by have := h.2.2.1; omega))
      clear k0 k1 k2
      go_wp2
      go_ret
      exact ⟨by rw [HF.out]; rfl, HW.out.2⟩
    have d2 : decide (p.d < 0) = false := decide_eq_false k2
    by_cases k3 : m - p.k < p.d
    · have d3 : decide (m - p.k < p.d) = true := decide_eq_true k3
      have HF := hid13 (HBad.out (fun h => by have := h.2.2.2; omega))
      clear k0 k1 k2 k3
      go_wp2
      go_ret
      exact ⟨by rw [HF.out]; rfl, HW.out.2⟩
    have d3 : decide (m - p.k < p.d) = false := decide_eq_false k3
    have w2 : IntKind.i64.wrap (m - p.k - p.d) = m - p.k - p.d := by rw [IntKind.wrap_i64]; have := HX.out; have := HL.out; omega
    have HM2 := hid13 (HGo.out ⟨by omega, by omega, by omega, by omega⟩)
    clear k0 k1 k2 k3
    go_wp2
    go_roundg (gk - 1)
    case measure => have := HX.out; omega
    case rel => exact ⟨k + 1, m - p.k - p.d, by have := HX.out; omega, rfl, rfl, HM2, HW⟩
end Go.Proofs.YtiachojhnbicaaaDoor
namespace Go.Proofs.YtiachojhnbicaaaDoor
open Go.RowKit
set_option linter.unusedSimpArgs false
set_option linter.unusedVariables false
attribute [local go_sem] Oper.semAt_some

def Dt21 (W : World) (v : Value) (l : List Nat) : Prop := RwX cB W v l ∧ RowA W 1 v l.length (l.map cB)
theorem Dt21.below {w w' : World} {v : Value} {l : List Nat} (h : Dt21 w v l) (hb : Below w.heap.size w w') : Dt21 w' v l := ⟨h.1.below hb, h.2.below hb⟩
theorem own_dt21 {W : World} {base : Nat} {v : Value} {l : List Nat} (h : W.ownsRow base 5 1 v l.length (l.map cB)) : Dt21 W v l := ⟨own_rwx h, own_rowA h⟩
theorem dt_blk21 {w W : World} {v : Value} {l : List Nat} (h : Dt21 w v l) (hk : ∀ z, v.ownBlock = some z → z < w.heap.size → W.heap[z]? = w.heap[z]?) : Dt21 W v l := by
  obtain ⟨⟨ao, c, e, hc, h⟩, ⟨hl, ao', c', e', hc', h'⟩⟩ := h
  refine ⟨⟨ao, c, e, hc, h.imp id ?_⟩, ⟨hl, ao', c', e', hc', h'.imp id ?_⟩⟩
  · rintro ⟨b, off, e2, h⟩
    refine ⟨b, off, e2, fun j r hj => ?_⟩
    have c0 := h j r hj
    exact (World.cell?_of_block (a := ⟨b, off + j, none⟩) (hk b (by rw [e, e2]; rfl) (cell_in c0))).trans c0
  · rintro ⟨⟨ab, af, asb⟩, e2, h⟩
    refine ⟨⟨ab, af, asb⟩, e2, fun j u hj => ?_⟩
    obtain ⟨a, ha⟩ : ∃ a : Addr, a = ⟨ab, af, asb⟩ := ⟨_, rfl⟩
    have hbk : (Value.slice (some a) l.length c').ownBlock = some a.block := by rw [ha]; rfl
    rw [← ha] at e2 h ⊢
    clear ha
    have c0 := h j u hj
    have sp := spot9 c0
    have hb : W.heap[(a.add j).block]? = w.heap[(a.add j).block]? := by
      refine hk (a.add j).block (by rw [e', e2, hbk]; congr 1; unfold Addr.add; split <;> rfl) ?_
      rw [sp] at c0
      exact cell_in c0
    exact (World.cell?_of_block (a := a.add j) hb).trans c0
def rowP21 : List Pt → List Value → List Value
  | d :: L, v :: V => .int .i64 d.k :: .int .i64 d.d :: v :: rowP21 L V
  | _, _ => []
theorem rowP21_app : ∀ (L : List Pt) (V : List Value) (d : Pt) (v : Value), L.length = V.length → rowP21 (L ++ [d]) (V ++ [v]) = rowP21 L V ++ [.int .i64 d.k, .int .i64 d.d, v]
  | [], [], d, v, _ => rfl
  | x :: L, y :: V, d, v, h => by
    show _ :: _ :: _ :: rowP21 (L ++ [d]) (V ++ [v]) = _
    rw [rowP21_app L V d v (by simpa using h)]; rfl
  | [], y :: V, d, v, h => by simp at h
  | x :: L, [], d, v, h => by simp at h
theorem rowP21_get : ∀ (L : List Pt) (V : List Value) (j : Nat) (d : Pt) (v : Value), L[j]? = some d → V[j]? = some v → (rowP21 L V)[j * 3]? = some (.int .i64 d.k) ∧ (rowP21 L V)[j * 3 + 1]? = some (.int .i64 d.d) ∧ (rowP21 L V)[j * 3 + 2]? = some v
  | [], V, j, d, v, h, _ => by simp at h
  | x :: L, [], j, d, v, _, h => by simp at h
  | x :: L, y :: V, 0, d, v, h1, h2 => by
    simp at h1 h2
    subst h1 h2
    exact ⟨rfl, rfl, rfl⟩
  | x :: L, y :: V, j + 1, d, v, h1, h2 => by
    have ih := rowP21_get L V j d v (by simpa using h1) (by simpa using h2)
    have e0 : (j + 1) * 3 = j * 3 + 3 := by omega
    rw [e0]
    exact ih
theorem ptr_of21 {W : World} {base : Nat} {v : Value} {L : List Pt} {V : List Value} (h : W.ownsRow base 34 3 v L.length (rowP21 L V)) (hl : V.length = L.length) (hr : ∀ (j : Nat) (d : Pt) (vr : Value), L[j]? = some d → V[j]? = some vr → Dt21 W vr d.x) : PtR21 W v L := by
  by_cases hL : L = []
  · subst hL
    obtain ⟨ao, c, hv⟩ := own_form h
    exact ⟨ao, c, hv, Nat.zero_le _, .inl rfl⟩
  · have hp := List.length_pos_iff.mpr hL
    obtain ⟨g, c, hv, hc⟩ : ∃ g c, v = .slice (some ⟨g, 0, none⟩) L.length c ∧ L.length ≤ c := by
      rcases h.2 with ⟨-, h0⟩ | ⟨g, c, cur, e, -, -, h3, -⟩
      · omega
      · exact ⟨g, c, e, h3⟩
    subst hv
    refine ⟨_, c, rfl, hc, .inr ⟨g, 0, rfl, fun j d hj => ?_⟩⟩
    have hjl := (List.getElem?_eq_some_iff.mp hj).1
    have hvj : V[j]? = some V[j] := List.getElem?_eq_getElem (by omega)
    obtain ⟨c0, c1, c2⟩ := rowP21_get L V j d _ hj hvj
    rw [Nat.zero_add]
    have hq := hr j d _ hj hvj
    exact ⟨V[j], (h.cellAt _ (by omega)).trans c0, (h.cellAt _ (by omega)).trans c1, (h.cellAt _ (by omega)).trans c2, hq.1, hq.2⟩
theorem Tryd.infoP21 : (Tryd.prog.info? 34).map (fun i => (i.zero, i.size, i.bytes)) = some (some (.agg #[.int .i64 0, .int .i64 0, .slice none 0 0]), 3, 40) := by kernel_rfl
theorem news_three21 (w : World) (x y z : Value) (T : TypeId) : ∀ j u, [x, y, z][j]? = some u → (w.alloc (.cells #[x, y, z] T)).cell? ((⟨w.heap.size, 0, none⟩ : Addr).add j) = some u := by
  intro j u h
  match j, h with
  | 0, h => simp at h; subst h; simp [go_sem, Addr.add]
  | 1, h => simp at h; subst h; simp [go_sem, Addr.add]
  | 2, h => simp at h; subst h; simp [go_sem, Addr.add]
  | j + 3, h => simp at h
theorem three_one21 (a b : Int) (ao : Option Addr) (n c : Nat) : ∀ u ∈ [Value.int .i64 a, .int .i64 b, .slice ao n c], u.oneCell' = true := by
  intro u hu
  simp at hu
  rcases hu with h | h | h <;> subst h <;> rfl
end Go.Proofs.YtiachojhnbicaaaDoor
namespace Go.Proofs.YtiachojhnbicaaaDoor
open Go.RowKit
set_option linter.unusedSimpArgs false
set_option linter.unusedVariables false

section
variable {P : Program}
theorem gh_anyP21 {γ : Type} (PQ : List PanicEntry → World → Prop) {l : List Oper} (ok : QpOk l l.length l.length) (hgd : ∀ o ∈ l, o.guard = none) (hdst : ∀ (i k : Nat) (oi ok : Oper) (s : Nat), l[i]? = some oi → l[k]? = some ok → oi.dst = some s → ok.dst = some s → i = k) {Q : Exit → Act → World → Prop} {a : Act} (A : γ → Act) (hsz : ∀ g, (A g).tmps.size = a.tmps.size) (hdf : ∀ g, (A g).defers = a.defers) (hA : ∀ g s, (∀ o ∈ l, o.dst ≠ some s) → (A g).tmps[s]? = a.tmps[s]?) (R : Array Bool → γ → World → Prop)
    (hstep : ∀ (i : Nat) (o : Oper) (lp : Array Bool) (g : γ) (w' : World) (a' : Act), l[i]? = some o → lp.size = l.length → lp.getD i false = false → (∀ e ∈ o.after, Region.binds .any e = true → lp.getD e.on false = true) → R lp g w' → Slt l a (A g) lp a' →
      ∀ (K : Act → World → Prop) (Q' : Exit → Act → World → Prop), (∀ ch a'' w'', a''.defers = a.defers → PQ ch w'' → Q' (.panic ch) a'' w'') → (∀ g' w'', (∀ (k : Nat) (o : Oper) (s : Nat), l[k]? = some o → lp.getD k false = true → o.dst = some s → (A g').tmps[s]? = (A g).tmps[s]?) → R (lp.setIfInBounds i true) g' w'' → ∀ v, valO (A g') o = v → K (a'.put o.dst v) w'') → o.wp P a' w' K Q')
    (hPQ : ∀ ch a'' w'', a''.defers = a.defers → PQ ch w'' → Q (.panic ch) a'' w'') (hpost : ∀ g w', R (Array.replicate l.length true) g w' → Q .normal (A g) w') :
    ∀ (fuel : Nat) (lp : Array Bool) (g : γ) (a' : Act) (w : World), lp.size = l.length → unl lp = fuel → R lp g w → Slt l a (A g) lp a' → wpAny P .any l.toArray Q fuel lp a' w := by
  intro fuel
  have fin : ∀ (lp : Array Bool) (g : γ) (a' : Act) (w : World), lp.size = l.length → unl lp = 0 → R lp g w → Slt l a (A g) lp a' → Q .normal a' w := by
    intro lp g a' w hs hu hR hS
    have e : lp = Array.replicate l.length true := by have := unl_zero lp hu; rwa [hs] at this
    rw [e] at hR hS
    have : a' = A g := by
      have ht : a'.tmps = (A g).tmps := by
        apply Array.ext_getElem?
        intro s
        by_cases h : ∃ (k : Nat) (o : Oper), l[k]? = some o ∧ o.dst = some s
        · obtain ⟨k, o, h1, h2⟩ := h
          have hk : k < l.length := (List.getElem?_eq_some_iff.mp h1).1
          exact hS.don k o s h1 (by simp [Array.getElem?_replicate, hk]) h2
        · have h' : ∀ o ∈ l, o.dst ≠ some s := by
            intro o ho e
            obtain ⟨k, hk, rfl⟩ := List.mem_iff_getElem.mp ho
            exact h ⟨k, l[k], List.getElem?_eq_getElem hk, e⟩
          rw [hA g s h']
          exact hS.oth s (fun k o h1 _ e => h ⟨k, o, h1, e⟩)
      have hd : a'.defers = (A g).defers := by rw [hS.dfr, hdf]
      cases a'
      cases hAg : A g
      rw [hAg] at ht hd
      simp only at ht hd
      rw [ht, hd]
    rw [this]
    exact hpost g w hR
  induction fuel with
  | zero =>
    intro lp g a' w hs hu hR hS
    refine ⟨?_, fin lp g a' w hs hu hR hS⟩
    have e : lp = Array.replicate l.length true := by have := unl_zero lp hu; rwa [hs] at this
    apply List.eq_nil_iff_forall_not_mem.mpr
    intro i hi
    obtain ⟨hun, o, ho, _⟩ := mem_ready.1 hi
    have hk : i < l.length := by
      have := (Array.getElem?_eq_some_iff.mp ho).1
      simpa using this
    rw [e] at hun
    simp [Array.getElem?_replicate, hk] at hun
  | succ fuel ih =>
    intro lp g a' w hs hu hR hS
    refine ⟨fun e => ?_, fun i hi => ?_⟩
    · obtain ⟨k, hk, hf⟩ := unl_some lp fuel hu
      have hne := some_ready ok lp hs k (by omega) hf
      rw [Nat.sub_self] at hne
      exact absurd (by simpa using e) hne
    · obtain ⟨hun, o, ho, hrd⟩ := mem_ready.1 hi
      have ho' : l[i]? = some o := by simpa using ho
      have hil : i < l.length := (List.getElem?_eq_some_iff.mp ho').1
      have hun' : lp.getD i false = false := by
        rw [Array.getD_eq_getD_getElem?] at hun ⊢
        cases q : lp[i]? with
        | none => rfl
        | some b => rw [q] at hun; simpa using hun
      unfold wpOp
      simp only [ho]
      rw [if_pos (by simp [Region.wanted, hgd o (List.mem_of_getElem? ho')])]
      left
      refine hstep i o lp g w a' ho' hs hun' (fun e he hb => hrd e he hb) hR hS _ _ hPQ ?_
      intro g' w'' hsame hR' v hv
      subst hv
      refine ih _ g' _ w'' (by simp [hs]) (by have := unl_set lp i hun; omega) hR' ⟨?_, ?_, ?_, ?_⟩
      · intro k ok s hk hl hd
        rcases getD_set hl with rfl | hl'
        · have : ok = o := by rw [ho'] at hk; cases hk; rfl
          subst this
          unfold Act.put valO
          rw [hd]
          simp only [Option.bind_some]
          by_cases hlt : s < a'.tmps.size
          · rw [Array.getElem?_setIfInBounds_self_of_lt hlt]
            have h2 : s < (A g').tmps.size := by rw [hsz, ← hS.siz]; exact hlt
            rw [Array.getElem?_eq_getElem h2]
            rfl
          · rw [Array.getElem?_eq_none (by simp; omega), Array.getElem?_eq_none (by rw [hsz, ← hS.siz]; omega)]
        · rw [put_other a' o.dst _ s (fun e => by
            have := hdst k i ok o s hk ho' hd e
            subst this
            rw [hun'] at hl'
            cases hl'), hS.don k ok s hk hl' hd, hsame k ok s hk hl' hd]
      · intro s h
        have hne : o.dst ≠ some s := h i o ho' (getD_set_same (by omega))
        rw [put_other a' o.dst _ s hne]
        exact hS.oth s (fun k ok hk hl => h k ok hk (by
          by_cases e : k = i
          · subst e; exact getD_set_same (by omega)
          · rw [Array.getD_eq_getD_getElem?] at hl ⊢
            rwa [Array.getElem?_setIfInBounds_ne (by omega)]))
      · rw [put_size, hS.siz]
      · unfold Act.put
        cases o.dst <;> exact hS.dfr
theorem gh_regionP21 {γ : Type} (PQ : List PanicEntry → World → Prop) {id : Nat} {l : List Oper} (ok : QpOk l l.length l.length) (hgd : (l.all fun o => o.guard.isNone) = true) (hdst : dstG l = true) {Q : Exit → Act → World → Prop} {a : Act} {w : World} (ds : List (Option Tmp)) (vals : γ → List Value) (hm : P.follows .mixedOrders = true) (hds : ∀ d ∈ ds, ∃ o ∈ l, o.dst = d) (R : Array Bool → γ → World → Prop) (g0 : γ) (h0 : R (Array.replicate l.length false) g0 w.drew)
    (hstep : ∀ (i : Nat) (o : Oper) (lp : Array Bool) (g : γ) (w' : World) (a' : Act), l[i]? = some o → lp.size = l.length → lp.getD i false = false → (∀ e ∈ o.after, Region.binds .any e = true → lp.getD e.on false = true) → R lp g w' → Slt l a (putAll a ds (vals g)) lp a' →
      ∀ (K : Act → World → Prop) (Q' : Exit → Act → World → Prop), (∀ ch a'' w'', a''.defers = a.defers → PQ ch w'' → Q' (.panic ch) a'' w'') → (∀ g' w'', (∀ (k : Nat) (o : Oper) (s : Nat), l[k]? = some o → lp.getD k false = true → o.dst = some s → (putAll a ds (vals g')).tmps[s]? = (putAll a ds (vals g)).tmps[s]?) → R (lp.setIfInBounds i true) g' w'' → ∀ v, valO (putAll a ds (vals g')) o = v → K (a'.put o.dst v) w'') → o.wp P a' w' K Q')
    (hPQ : ∀ ch a'' w'', a''.defers = a.defers → PQ ch w'' → Q (.panic ch) a'' w'') (hpost : ∀ g w', R (Array.replicate l.length true) g w' → Q .normal (putAll a ds (vals g)) w') : (Code.region id l.toArray true).wp P Q a w := by
  refine wp_region_any hm ?_
  have hu : unl (Array.replicate l.length false) = l.length := by unfold unl; simp
  have main := gh_anyP21 PQ ok (fun o ho => by have := List.all_eq_true.mp hgd o ho; simpa using this) (dstG_of hdst) (A := fun g => putAll a ds (vals g)) (fun g => putAll_size _ _ _) (fun g => putAll_defers _ _ _) (fun g s h => putAll_other _ _ _ _ (fun d hd e => by obtain ⟨o, ho, hod⟩ := hds d hd; exact h o ho (by rw [hod, e]))) R hstep hPQ hpost l.length (Array.replicate l.length false) g0 a w.drew (by simp) hu h0 ⟨fun k o s hk hl => (by rw [Array.getD_eq_getD_getElem?, Array.getElem?_replicate] at hl; split at hl <;> simp at hl), fun s _ => rfl, rfl, rfl⟩
  have e1 : l.length = l.toArray.size := by simp
  rw [e1] at main
  simpa using main
end
end Go.Proofs.YtiachojhnbicaaaDoor
namespace Go.Proofs.YtiachojhnbicaaaDoor
open Go.RowKit Go.Shelf
set_option linter.unusedSimpArgs false
set_option linter.unusedVariables false
attribute [local go_sem] Oper.semAt_some

def pan21 (e : Int) : List PanicEntry := [{ v := .iface 27 (.int .i64 e), recovered := false }]
theorem askY21 (e : Int) (w : World) : Calls Tryd.prog 45 #[.bool true, .int .i64 e] w fun r w' => r = .returned (.tuple #[]) ∧ w' = w := by
  go_enter Tryd.func45, Tryd.ntmps45
  go_wp2
  exact bodyPost_end (v := .tuple #[]) (by simp [results, Tryd.results45, go_sem]) rfl ⟨rfl, rfl⟩
theorem askN21 (e : Int) (w : World) : Calls Tryd.prog 45 #[.bool false, .int .i64 e] w fun r w' => r = .panicked (pan21 e) ∧ w' = w := by
  unfold pan21
  go_enter Tryd.func45, Tryd.ntmps45
  go_wp2
  exact ⟨rfl, rfl, rfl⟩
structure KR21 (B : Nat) (w w' : World) : Prop where
  lo : Below B w w'
  ot : KX (· = B) w w'
theorem KR21.refl (B : Nat) (w : World) : KR21 B w w := ⟨Below.refl _ _, KX.refl _ _⟩
theorem KR21.trans {B : Nat} {a b c : World} (h : KR21 B a b) (g : KR21 B b c) : KR21 B a c := ⟨h.lo.trans g.lo, h.ot.trans g.ot⟩
theorem KR21.below {B : Nat} {a b c : World} (h : KR21 B a b) (hB : B < a.heap.size) (g : Below b.heap.size b c) : KR21 B a c := ⟨h.lo.trans (g.mono (by have := h.ot.1; omega)), h.ot.below g⟩
theorem KR21.set {B o : Nat} {a b : World} (h : KR21 B a b) (u : Value) : KR21 B a (b.setCell ⟨B, o, none⟩ u) := ⟨h.lo.setCell (p := ⟨B, o, none⟩) (Nat.le_refl _) u, h.ot.set B o u (.inl rfl)⟩
structure RS21 (w0 : World) (B : Nat) (va vl : Value) (l : List Nat) (vp : Value) (w : World) : Prop where
  b : Below w0.heap.size w0 w
  s : w0.heap.size ≤ B
  c : w.heap[B]? = some (.cells #[va, vl, vp] 64)
  r : RwX cB w0 vl l
  a : RowA w0 1 vl l.length (l.map cB)
  x : ∀ z ∈ l, z < 256
  n : l.length ≤ 140737480000000
theorem RS21.lt {w0 : World} {B : Nat} {va vl vp : Value} {l : List Nat} {w : World} (h : RS21 w0 B va vl l vp w) : B < w.heap.size := lt_16 h.c
theorem RS21.below {w0 : World} {B : Nat} {va vl vp : Value} {l : List Nat} {w w' : World} (h : RS21 w0 B va vl l vp w) (hb : Below w.heap.size w w') : RS21 w0 B va vl l vp w' := ⟨keepb hb h.b, h.s, (hb.block _ h.lt).trans h.c, h.r, h.a, h.x, h.n⟩
theorem RS21.left {w0 : World} {B : Nat} {va vl vp : Value} {l : List Nat} {w : World} (h : RS21 w0 B va vl l vp w) {vl' : Value} {l' : List Nat} (hr : RwX cB w0 vl' l') (ha : RowA w0 1 vl' l'.length (l'.map cB)) (hx : ∀ z ∈ l', z < 256) (hn : l'.length ≤ 140737480000000) : RS21 w0 B va vl' l' vp (w.setCell ⟨B, 1, none⟩ vl') :=
  ⟨h.b.setCell (p := ⟨B, 1, none⟩) h.s vl', h.s, by have := set_16 (o := 1) h.c vl'; simpa using this, hr, ha, hx, hn⟩
theorem rwx_take21 {W : World} {ao : Option Addr} {n c z : Nat} {l : List Nat} (h : RwX cB W (.slice ao n c) l) (hz : z ≤ l.length) : RwX cB W (.slice ao z c) (l.take z) := by
  have h2 : RwX cB W (.slice ao n c) (l.take z ++ l.drop z) := by rw [List.take_append_drop]; exact h
  have h3 := rwx_take h2
  rw [List.length_take, Nat.min_eq_left hz] at h3
  exact h3
set_option maxRecDepth 100000 in
set_option maxHeartbeats 4000000 in
theorem nextY21 (w0 : World) (B : Nat) (va vl : Value) (l : List Nat) (vp : Value) (n : Nat) (w : World) (h : RS21 w0 B va vl l vp w) (hn : n ≤ l.length) (h32 : n < 4294967296) :
    Calls Tryd.prog 51 #[.pointer (some ⟨B, 0, none⟩), .int .u32 (n : Int)] w fun r w' => ∃ v' vl', r = .returned v' ∧ RwX cB w0 v' (l.take n) ∧ RowA w0 1 v' n ((l.take n).map cB) ∧ RS21 w0 B va vl' (l.drop n) vp w' ∧ KR21 B w w' := by
  obtain ⟨i0, ji, jz0, jz1, jz2⟩ := info13 Tryd.infoB13
  obtain ⟨lo, lc, hvl, hlc, -⟩ := id h.r
  subst hvl
  have HS := hid13 h
  have z1 := at_16 h.c 1 _ rfl
  have f1 := fr_16 (j := 1) h.c
  have hlb := h.n
  have c1 : IntKind.u64.wrap (n : Int) = (n : Int) := by rw [IntKind.wrap_u64]; omega
  have c2 : IntKind.u64.wrap (l.length : Int) = (l.length : Int) := by rw [IntKind.wrap_u64]; omega
  have l1 : decide ((n : Int) ≤ (l.length : Int)) = true := decide_eq_true (by omega)
  have l1' : decide (n ≤ l.length) = true := decide_eq_true hn
  have hs1 : ∀ X, Sem.run Tryd.prog (Instr.sliceAt 22 (.slice lo l.length lc) none (some (.int .u32 (n : Int))) none) X = .ok (.slice lo n lc) X := by
    intro X
    have hk : n ≤ lc := by omega
    simp [Instr.sliceAt, Instr.slice, Instr.sliceBounds, Instr.sliceBound, run_underlying Tryd.underlying22, sizeOf, typeInfo, ji, hk, go_sem]
  have hs2 : ∀ X, Sem.run Tryd.prog (Instr.sliceAt 22 (.slice lo l.length lc) (some (.int .u32 (n : Int))) none none) X = .ok (.slice (if lc = n then lo else lo.map (·.add (n * 1))) (l.length - n) (lc - n)) X := by
    intro X
    simp [Instr.sliceAt, Instr.slice, Instr.sliceBounds, Instr.sliceBound, run_underlying Tryd.underlying22, sizeOf, typeInfo, ji, jz1, hn, go_sem]
  have HP : Hid (RwX cB w0 (.slice lo n lc) (l.take n) ∧ RowA w0 1 (.slice lo n lc) n ((l.take n).map cB) ∧ RwX cB w0 (.slice (if lc = n then lo else lo.map (·.add (n * 1))) (l.length - n) (lc - n)) (l.drop n) ∧ RowA w0 1 (.slice (if lc = n then lo else lo.map (·.add (n * 1))) (l.length - n) (lc - n)) (l.length - n) ((l.drop n).map cB)) := ⟨rwx_take21 h.r hn, rowA_take21 h.a hn, rwx_from h.r hn, rowA_from21 h.a hn⟩
  generalize (if lc = n then lo else lo.map (·.add (n * 1))) = zo at *
  have HN : Hid (n ≤ l.length) := hn
  clear h hn h32 hlc hlb
  go_enter Tryd.func51, Tryd.ntmps51
  go_wp2_with fail
  refine (askY21 22 w).mono ?_
  rintro e w1 ⟨rfl, hw1⟩
  replace hw1 := hw1.symm
  subst hw1
  go_wp2
  go_ret
  refine ⟨_, _, rfl, HP.out.1, HP.out.2.1, HS.out.left HP.out.2.2.1 ?_ ?_ ?_, (KR21.refl B w).set _⟩
  · rw [List.length_drop]; exact HP.out.2.2.2
  · exact fun z hz => HS.out.x z (List.mem_of_mem_drop hz)
  · rw [List.length_drop]; have := HS.out.n; omega
set_option maxRecDepth 100000 in
set_option maxHeartbeats 4000000 in
theorem nextN21 (w0 : World) (B : Nat) (va vl : Value) (l : List Nat) (vp : Value) (n : Nat) (w : World) (h : RS21 w0 B va vl l vp w) (hn : ¬ n ≤ l.length) (h32 : n < 4294967296) :
    Calls Tryd.prog 51 #[.pointer (some ⟨B, 0, none⟩), .int .u32 (n : Int)] w fun r w' => r = .panicked (pan21 22) ∧ w' = w := by
  obtain ⟨lo, lc, hvl, hlc, -⟩ := id h.r
  subst hvl
  have z1 := at_16 h.c 1 _ rfl
  have hlb := h.n
  have c1 : IntKind.u64.wrap (n : Int) = (n : Int) := by rw [IntKind.wrap_u64]; omega
  have c2 : IntKind.u64.wrap (l.length : Int) = (l.length : Int) := by rw [IntKind.wrap_u64]; omega
  have l1 : decide ((n : Int) ≤ (l.length : Int)) = false := decide_eq_false (by omega)
  have l1' : decide (n ≤ l.length) = false := decide_eq_false hn
  clear h hn h32 hlc hlb
  go_enter Tryd.func51, Tryd.ntmps51
  go_wp2_with fail
  refine (askN21 22 w).mono ?_
  rintro e w1 ⟨rfl, hw1⟩
  replace hw1 := hw1.symm
  subst hw1
  exact ⟨rfl, rfl, rfl⟩
set_option maxRecDepth 100000 in
set_option maxHeartbeats 4000000 in
theorem numY21 (w0 : World) (B : Nat) (va vl : Value) (l : List Nat) (vp : Value) (w : World) (h : RS21 w0 B va vl l vp w) (hn : 4 ≤ l.length) :
    Calls Tryd.prog 46 #[.pointer (some ⟨B, 0, none⟩)] w fun r w' => ∃ vl', r = .returned (.int .u32 ((numN13 (l.take 4) : Nat) : Int)) ∧ RS21 w0 B va vl' (l.drop 4) vp w' ∧ KR21 B w w' := by
  have K1 := nextY21 w0 B va vl l vp 4 w h hn (by decide)
  have HS := hid13 h
  have HN := hid13 hn
  clear h hn
  go_enter Tryd.func46, Tryd.ntmps46
  go_wp2_with fail
  refine K1.mono ?_
  rintro e w1 ⟨v1, vl1, rfl, hr1, ha1, hs1, hk1⟩
  have hlt4 : (l.take 4).length = 4 := by rw [List.length_take]; have := HN.out; omega
  have K2 := get32_any v1 (l.take 4) 0 w1 (hr1.below (hs1.b)) (by rw [hlt4]; decide) (fun b hb => HS.out.x b (List.mem_of_mem_take hb)) (by decide) (by decide)
  have e1 : gtN (l.take 4) 0 4 = numN13 (l.take 4) := by
    unfold gtN
    rw [if_pos ⟨by decide, by rw [hlt4]; decide⟩]
    congr 1
    rw [show (0 : Int).toNat = 0 from rfl, List.drop_zero, List.take_of_length_le (by rw [hlt4]; exact Nat.le_refl _)]
  rw [e1] at K2
  have H1 := hid13 (And.intro hs1 hk1)
  obtain ⟨o1, c1, hv1⟩ : ∃ o c, v1 = .slice o 4 c := by obtain ⟨-, o, c, hh, -⟩ := ha1; exact ⟨o, c, hh⟩
  subst hv1
  generalize gtE (l.take 4) 0 4 = y at *
  obtain ⟨m, hm⟩ : ∃ m, m = numN13 (l.take 4) := ⟨_, rfl⟩
  have HM := hid13 hm
  rw [← hm] at K2
  clear hm
  clear K1 hr1 ha1 hs1 hk1 e1 hlt4
  go_wp2_with fail
  refine K2.mono ?_
  rintro e w2 ⟨rfl, hb⟩
  have H2 := hid13 hb
  clear hb K2
  go_wp2
  go_ret
  exact ⟨_, by rw [← HM.out]; rfl, H1.out.1.below H2.out, H1.out.2.below HS.out.lt H2.out⟩
set_option maxRecDepth 100000 in
set_option maxHeartbeats 4000000 in
theorem numN21 (w0 : World) (B : Nat) (va vl : Value) (l : List Nat) (vp : Value) (w : World) (h : RS21 w0 B va vl l vp w) (hn : ¬ 4 ≤ l.length) :
    Calls Tryd.prog 46 #[.pointer (some ⟨B, 0, none⟩)] w fun r w' => r = .panicked (pan21 22) ∧ w' = w := by
  have K1 := nextN21 w0 B va vl l vp 4 w h hn (by decide)
  clear h hn
  go_enter Tryd.func46, Tryd.ntmps46
  go_wp2_with fail
  refine K1.mono ?_
  rintro e w1 ⟨rfl, hw1⟩
  replace hw1 := hw1.symm
  subst hw1
  exact ⟨rfl, rfl, rfl⟩
end Go.Proofs.YtiachojhnbicaaaDoor
namespace Go.Proofs.YtiachojhnbicaaaDoor
open Go.RowKit Go.Shelf
set_option linter.unusedSimpArgs false
set_option linter.unusedVariables false
attribute [local go_sem] Oper.semAt_some

def KT21 (w w' : World) : Prop := ∀ (z : Nat) (cs : Array Value) (T : TypeId) (fr : Nat × Nat), 5 ≠ T → w.heap[z]? = some (.cells cs T fr) → w'.heap[z]? = some (.cells cs T fr)
theorem KT21.refl (w : World) : KT21 w w := fun _ _ _ _ _ h => h
theorem KT21.trans {w w' w'' : World} (h : KT21 w w') (h' : KT21 w' w'') : KT21 w w'' := fun z cs T fr hT hz => h' z cs T fr hT (h z cs T fr hT hz)
theorem KT21.grown {w w' : World} {base e size n : Nat} {v : Value} {xs : List Value} (ho : w.ownsRow base 5 size v n xs) (h : w.grownBy w' v.ownBlock) : KT21 w w' := fun z cs T fr hT hz => (h.block _ (lt_16 hz) (fun e => own_not18 ho hz hT e.symm)).trans hz
end Go.Proofs.YtiachojhnbicaaaDoor
namespace Go.Proofs.YtiachojhnbicaaaDoor
set_option linter.unusedSimpArgs false
set_option linter.unusedVariables false

end Go.Proofs.YtiachojhnbicaaaDoor
