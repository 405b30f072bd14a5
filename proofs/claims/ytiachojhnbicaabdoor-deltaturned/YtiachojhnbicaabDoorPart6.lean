/-
  Part 6 of the proof: 4 texts, one behind the other.
-/
import Derived.Test.YtiachojhnbicaabDoorPart5
import Derived.Deep.RegionHeld3
import Derived.Deep.AppendLies
import Derived.Laws.AppendOwnNone
import Derived.Test.YtiachojhnbicaabDoorPart3
import Derived.Test.YtiachojhnbicaabDoorPart2
import Derived.WalkLawsBesides
import Derived.ArgAppend
namespace Go.Proofs.YtiachojhnbicaabDoor
open Go.RowKit
set_option linter.unusedSimpArgs false
set_option linter.unusedVariables false
attribute [local go_sem] Oper.semAt_some

def Dt21 (W : World) (v : Value) (l : List Nat) : Prop := RwX cB W v l ∧ RowA W 1 v l.length (l.map cB)
theorem Dt21.below {w w' : World} {v : Value} {l : List Nat} (h : Dt21 w v l) (hb : Below w.heap.size w w') : Dt21 w' v l := ⟨h.1.below hb, h.2.below hb⟩
theorem own_dt21 {W : World} {base : Nat} {v : Value} {l : List Nat} (h : W.ownsRow base 5 1 v l.length (l.map cB)) : Dt21 W v l := ⟨own_rwx h, own_rowA h⟩
theorem dt_blk21 {w W : World} {v : Value} {l : List Nat} (h : Dt21 w v l) (hk : ∀ z, v.ownBlock = some z → z < w.heap.size → W.heap[z]? = w.heap[z]?) : Dt21 W v l := by
  obtain ⟨⟨ao, c, e, hc, h⟩, ⟨hl, ao', c', e', hc', h'⟩⟩ := h
  refine ⟨⟨ao, c, e, hc, h.imp id ?_⟩, ⟨hl, ao', c', e', hc', h'.imp id ?_⟩⟩
  · rintro ⟨b, off, e2, h⟩
    refine ⟨b, off, e2, fun j r hj => ?_⟩
    have c0 := h j r hj
    exact (World.cell?_of_block (a := ⟨b, off + j, none⟩) (hk b (by rw [e, e2]; rfl) (cell_in c0))).trans c0
  · rintro ⟨⟨ab, af, asb⟩, e2, h⟩
    refine ⟨⟨ab, af, asb⟩, e2, fun j u hj => ?_⟩
    obtain ⟨a, ha⟩ : ∃ a : Addr, a = ⟨ab, af, asb⟩ := ⟨_, rfl⟩
    have hbk : (Value.slice (some a) l.length c').ownBlock = some a.block := by rw [ha]; rfl
    rw [← ha] at e2 h ⊢
    clear ha
    have c0 := h j u hj
    have sp := spot9 c0
    have hb : W.heap[(a.add j).block]? = w.heap[(a.add j).block]? := by
      refine hk (a.add j).block (by rw [e', e2, hbk]; congr 1; unfold Addr.add; split <;> rfl) ?_
      rw [sp] at c0
      exact cell_in c0
    exact (World.cell?_of_block (a := a.add j) hb).trans c0
def rowP21 : List Pt → List Value → List Value
  | d :: L, v :: V => .int .i64 d.k :: .int .i64 d.d :: v :: rowP21 L V
  | _, _ => []
theorem rowP21_app : ∀ (L : List Pt) (V : List Value) (d : Pt) (v : Value), L.length = V.length → rowP21 (L ++ [d]) (V ++ [v]) = rowP21 L V ++ [.int .i64 d.k, .int .i64 d.d, v]
  | [], [], d, v, _ => rfl
  | x :: L, y :: V, d, v, h => by
    show _ :: _ :: _ :: rowP21 (L ++ [d]) (V ++ [v]) = _
    rw [rowP21_app L V d v (by simpa using h)]; rfl
  | [], y :: V, d, v, h => by simp at h
  | x :: L, [], d, v, h => by simp at h
theorem rowP21_get : ∀ (L : List Pt) (V : List Value) (j : Nat) (d : Pt) (v : Value), L[j]? = some d → V[j]? = some v → (rowP21 L V)[j * 3]? = some (.int .i64 d.k) ∧ (rowP21 L V)[j * 3 + 1]? = some (.int .i64 d.d) ∧ (rowP21 L V)[j * 3 + 2]? = some v
  | [], V, j, d, v, h, _ => by simp at h
  | x :: L, [], j, d, v, _, h => by simp at h
  | x :: L, y :: V, 0, d, v, h1, h2 => by
    simp at h1 h2
    subst h1 h2
    exact ⟨rfl, rfl, rfl⟩
  | x :: L, y :: V, j + 1, d, v, h1, h2 => by
    have ih := rowP21_get L V j d v (by simpa using h1) (by simpa using h2)
    have e0 : (j + 1) * 3 = j * 3 + 3 := by omega
    rw [e0]
    exact ih
theorem ptr_of21 {W : World} {base : Nat} {v : Value} {L : List Pt} {V : List Value} (h : W.ownsRow base 38 3 v L.length (rowP21 L V)) (hl : V.length = L.length) (hr : ∀ (j : Nat) (d : Pt) (vr : Value), L[j]? = some d → V[j]? = some vr → Dt21 W vr d.x) : PtR21 W v L := by
  by_cases hL : L = []
  · subst hL
    obtain ⟨ao, c, hv⟩ := own_form h
    exact ⟨ao, c, hv, Nat.zero_le _, .inl rfl⟩
  · have hp := List.length_pos_iff.mpr hL
    obtain ⟨g, c, hv, hc⟩ : ∃ g c, v = .slice (some ⟨g, 0, none⟩) L.length c ∧ L.length ≤ c := by
      rcases h.2 with ⟨-, h0⟩ | ⟨g, c, cur, e, -, -, h3, -⟩
      · omega
      · exact ⟨g, c, e, h3⟩
    subst hv
    refine ⟨_, c, rfl, hc, .inr ⟨g, 0, rfl, fun j d hj => ?_⟩⟩
    have hjl := (List.getElem?_eq_some_iff.mp hj).1
    have hvj : V[j]? = some V[j] := List.getElem?_eq_getElem (by omega)
    obtain ⟨c0, c1, c2⟩ := rowP21_get L V j d _ hj hvj
    rw [Nat.zero_add]
    have hq := hr j d _ hj hvj
    exact ⟨V[j], (h.cellAt _ (by omega)).trans c0, (h.cellAt _ (by omega)).trans c1, (h.cellAt _ (by omega)).trans c2, hq.1, hq.2⟩
theorem Tryd.infoP21 : (Tryd.prog.info? 38).map (fun i => (i.zero, i.size, i.bytes)) = some (some (.agg #[.int .i64 0, .int .i64 0, .slice none 0 0]), 3, 40) := by kernel_rfl
theorem news_three21 (w : World) (x y z : Value) (T : TypeId) : ∀ j u, [x, y, z][j]? = some u → (w.alloc (.cells #[x, y, z] T)).cell? ((⟨w.heap.size, 0, none⟩ : Addr).add j) = some u := by
  intro j u h
  match j, h with
  | 0, h => simp at h; subst h; simp [go_sem, Addr.add]
  | 1, h => simp at h; subst h; simp [go_sem, Addr.add]
  | 2, h => simp at h; subst h; simp [go_sem, Addr.add]
  | j + 3, h => simp at h
theorem three_one21 (a b : Int) (ao : Option Addr) (n c : Nat) : ∀ u ∈ [Value.int .i64 a, .int .i64 b, .slice ao n c], u.oneCell' = true := by
  intro u hu
  simp at hu
  rcases hu with h | h | h <;> subst h <;> rfl
end Go.Proofs.YtiachojhnbicaabDoor
namespace Go.Proofs.YtiachojhnbicaabDoor
open Go.RowKit
set_option linter.unusedSimpArgs false
set_option linter.unusedVariables false

section
variable {P : Program}
theorem gh_anyP21 {γ : Type} (PQ : List PanicEntry → World → Prop) {l : List Oper} (ok : QpOk l l.length l.length) (hgd : ∀ o ∈ l, o.guard = none) (hdst : ∀ (i k : Nat) (oi ok : Oper) (s : Nat), l[i]? = some oi → l[k]? = some ok → oi.dst = some s → ok.dst = some s → i = k) {Q : Exit → Act → World → Prop} {a : Act} (A : γ → Act) (hsz : ∀ g, (A g).tmps.size = a.tmps.size) (hdf : ∀ g, (A g).defers = a.defers) (hA : ∀ g s, (∀ o ∈ l, o.dst ≠ some s) → (A g).tmps[s]? = a.tmps[s]?) (R : Array Bool → γ → World → Prop)
    (hstep : ∀ (i : Nat) (o : Oper) (lp : Array Bool) (g : γ) (w' : World) (a' : Act), l[i]? = some o → lp.size = l.length → lp.getD i false = false → (∀ e ∈ o.after, Region.binds .any e = true → lp.getD e.on false = true) → R lp g w' → Slt l a (A g) lp a' →
      ∀ (K : Act → World → Prop) (Q' : Exit → Act → World → Prop), (∀ ch a'' w'', a''.defers = a.defers → PQ ch w'' → Q' (.panic ch) a'' w'') → (∀ g' w'', (∀ (k : Nat) (o : Oper) (s : Nat), l[k]? = some o → lp.getD k false = true → o.dst = some s → (A g').tmps[s]? = (A g).tmps[s]?) → R (lp.setIfInBounds i true) g' w'' → ∀ v, valO (A g') o = v → K (a'.put o.dst v) w'') → o.wp P a' w' K Q')
    (hPQ : ∀ ch a'' w'', a''.defers = a.defers → PQ ch w'' → Q (.panic ch) a'' w'') (hpost : ∀ g w', R (Array.replicate l.length true) g w' → Q .normal (A g) w') :
    ∀ (fuel : Nat) (lp : Array Bool) (g : γ) (a' : Act) (w : World), lp.size = l.length → unl lp = fuel → R lp g w → Slt l a (A g) lp a' → wpAny P .any l.toArray Q fuel lp a' w := by
  intro fuel
  have fin : ∀ (lp : Array Bool) (g : γ) (a' : Act) (w : World), lp.size = l.length → unl lp = 0 → R lp g w → Slt l a (A g) lp a' → Q .normal a' w := by
    intro lp g a' w hs hu hR hS
    have e : lp = Array.replicate l.length true := by have := unl_zero lp hu; rwa [hs] at this
    rw [e] at hR hS
    have : a' = A g := by
      have ht : a'.tmps = (A g).tmps := by
        apply Array.ext_getElem?
        intro s
        by_cases h : ∃ (k : Nat) (o : Oper), l[k]? = some o ∧ o.dst = some s
        · obtain ⟨k, o, h1, h2⟩ := h
          have hk : k < l.length := (List.getElem?_eq_some_iff.mp h1).1
          exact hS.don k o s h1 (by simp [Array.getElem?_replicate, hk]) h2
        · have h' : ∀ o ∈ l, o.dst ≠ some s := by
            intro o ho e
            obtain ⟨k, hk, rfl⟩ := List.mem_iff_getElem.mp ho
            exact h ⟨k, l[k], List.getElem?_eq_getElem hk, e⟩
          rw [hA g s h']
          exact hS.oth s (fun k o h1 _ e => h ⟨k, o, h1, e⟩)
      have hd : a'.defers = (A g).defers := by rw [hS.dfr, hdf]
      cases a'
      cases hAg : A g
      rw [hAg] at ht hd
      simp only at ht hd
      rw [ht, hd]
    rw [this]
    exact hpost g w hR
  induction fuel with
  | zero =>
    intro lp g a' w hs hu hR hS
    refine ⟨?_, fin lp g a' w hs hu hR hS⟩
    have e : lp = Array.replicate l.length true := by have := unl_zero lp hu; rwa [hs] at this
    apply List.eq_nil_iff_forall_not_mem.mpr
    intro i hi
    obtain ⟨hun, o, ho, _⟩ := mem_ready.1 hi
    have hk : i < l.length := by
      have := (Array.getElem?_eq_some_iff.mp ho).1
      simpa using this
    rw [e] at hun
    simp [Array.getElem?_replicate, hk] at hun
  | succ fuel ih =>
    intro lp g a' w hs hu hR hS
    refine ⟨fun e => ?_, fun i hi => ?_⟩
    · obtain ⟨k, hk, hf⟩ := unl_some lp fuel hu
      have hne := some_ready ok lp hs k (by omega) hf
      rw [Nat.sub_self] at hne
      exact absurd (by simpa using e) hne
    · obtain ⟨hun, o, ho, hrd⟩ := mem_ready.1 hi
      have ho' : l[i]? = some o := by simpa using ho
      have hil : i < l.length := (List.getElem?_eq_some_iff.mp ho').1
      have hun' : lp.getD i false = false := by
        rw [Array.getD_eq_getD_getElem?] at hun ⊢
        cases q : lp[i]? with
        | none => rfl
        | some b => rw [q] at hun; simpa using hun
      unfold wpOp
      simp only [ho]
      rw [if_pos (by simp [Region.wanted, hgd o (List.mem_of_getElem? ho')])]
      left
      refine hstep i o lp g w a' ho' hs hun' (fun e he hb => hrd e he hb) hR hS _ _ hPQ ?_
      intro g' w'' hsame hR' v hv
      subst hv
      refine ih _ g' _ w'' (by simp [hs]) (by have := unl_set lp i hun; omega) hR' ⟨?_, ?_, ?_, ?_⟩
      · intro k ok s hk hl hd
        rcases getD_set hl with rfl | hl'
        · have : ok = o := by rw [ho'] at hk; cases hk; rfl
          subst this
          unfold Act.put valO
          rw [hd]
          simp only [Option.bind_some]
          by_cases hlt : s < a'.tmps.size
          · rw [Array.getElem?_setIfInBounds_self_of_lt hlt]
            have h2 : s < (A g').tmps.size := by rw [hsz, ← hS.siz]; exact hlt
            rw [Array.getElem?_eq_getElem h2]
            rfl
          · rw [Array.getElem?_eq_none (by simp; omega), Array.getElem?_eq_none (by rw [hsz, ← hS.siz]; omega)]
        · rw [put_other a' o.dst _ s (fun e => by
            have := hdst k i ok o s hk ho' hd e
            subst this
            rw [hun'] at hl'
            cases hl'), hS.don k ok s hk hl' hd, hsame k ok s hk hl' hd]
      · intro s h
        have hne : o.dst ≠ some s := h i o ho' (getD_set_same (by omega))
        rw [put_other a' o.dst _ s hne]
        exact hS.oth s (fun k ok hk hl => h k ok hk (by
          by_cases e : k = i
          · subst e; exact getD_set_same (by omega)
          · rw [Array.getD_eq_getD_getElem?] at hl ⊢
            rwa [Array.getElem?_setIfInBounds_ne (by omega)]))
      · rw [put_size, hS.siz]
      · unfold Act.put
        cases o.dst <;> exact hS.dfr
theorem gh_regionP21 {γ : Type} (PQ : List PanicEntry → World → Prop) {id : Nat} {l : List Oper} (ok : QpOk l l.length l.length) (hgd : (l.all fun o => o.guard.isNone) = true) (hdst : dstG l = true) {Q : Exit → Act → World → Prop} {a : Act} {w : World} (ds : List (Option Tmp)) (vals : γ → List Value) (hm : P.follows .mixedOrders = true) (hds : ∀ d ∈ ds, ∃ o ∈ l, o.dst = d) (R : Array Bool → γ → World → Prop) (g0 : γ) (h0 : R (Array.replicate l.length false) g0 w.drew)
    (hstep : ∀ (i : Nat) (o : Oper) (lp : Array Bool) (g : γ) (w' : World) (a' : Act), l[i]? = some o → lp.size = l.length → lp.getD i false = false → (∀ e ∈ o.after, Region.binds .any e = true → lp.getD e.on false = true) → R lp g w' → Slt l a (putAll a ds (vals g)) lp a' →
      ∀ (K : Act → World → Prop) (Q' : Exit → Act → World → Prop), (∀ ch a'' w'', a''.defers = a.defers → PQ ch w'' → Q' (.panic ch) a'' w'') → (∀ g' w'', (∀ (k : Nat) (o : Oper) (s : Nat), l[k]? = some o → lp.getD k false = true → o.dst = some s → (putAll a ds (vals g')).tmps[s]? = (putAll a ds (vals g)).tmps[s]?) → R (lp.setIfInBounds i true) g' w'' → ∀ v, valO (putAll a ds (vals g')) o = v → K (a'.put o.dst v) w'') → o.wp P a' w' K Q')
    (hPQ : ∀ ch a'' w'', a''.defers = a.defers → PQ ch w'' → Q (.panic ch) a'' w'') (hpost : ∀ g w', R (Array.replicate l.length true) g w' → Q .normal (putAll a ds (vals g)) w') : (Code.region id l.toArray true).wp P Q a w := by
  refine wp_region_any hm ?_
  have hu : unl (Array.replicate l.length false) = l.length := by unfold unl; simp
  have main := gh_anyP21 PQ ok (fun o ho => by have := List.all_eq_true.mp hgd o ho; simpa using this) (dstG_of hdst) (A := fun g => putAll a ds (vals g)) (fun g => putAll_size _ _ _) (fun g => putAll_defers _ _ _) (fun g s h => putAll_other _ _ _ _ (fun d hd e => by obtain ⟨o, ho, hod⟩ := hds d hd; exact h o ho (by rw [hod, e]))) R hstep hPQ hpost l.length (Array.replicate l.length false) g0 a w.drew (by simp) hu h0 ⟨fun k o s hk hl => (by rw [Array.getD_eq_getD_getElem?, Array.getElem?_replicate] at hl; split at hl <;> simp at hl), fun s _ => rfl, rfl, rfl⟩
  have e1 : l.length = l.toArray.size := by simp
  rw [e1] at main
  simpa using main
end
end Go.Proofs.YtiachojhnbicaabDoor
namespace Go.Proofs.YtiachojhnbicaabDoor
open Go.RowKit Go.Shelf
set_option linter.unusedSimpArgs false
set_option linter.unusedVariables false
attribute [local go_sem] Oper.semAt_some

def pan21 (e : Int) : List PanicEntry := [{ v := .iface 24 (.int .i64 e), recovered := false }]
theorem askY21 (e : Int) (w : World) : Calls Tryd.prog 38 #[.bool true, .int .i64 e] w fun r w' => r = .returned (.tuple #[]) ∧ w' = w := by
  go_enter Tryd.func38, Tryd.ntmps38
  go_wp2
  exact bodyPost_end (v := .tuple #[]) (by simp [results, Tryd.results38, go_sem]) rfl ⟨rfl, rfl⟩
theorem askN21 (e : Int) (w : World) : Calls Tryd.prog 38 #[.bool false, .int .i64 e] w fun r w' => r = .panicked (pan21 e) ∧ w' = w := by
  unfold pan21
  go_enter Tryd.func38, Tryd.ntmps38
  go_wp2
  exact ⟨rfl, rfl, rfl⟩
structure KR21 (B : Nat) (w w' : World) : Prop where
  lo : Below B w w'
  ot : KX (· = B) w w'
theorem KR21.refl (B : Nat) (w : World) : KR21 B w w := ⟨Below.refl _ _, KX.refl _ _⟩
theorem KR21.trans {B : Nat} {a b c : World} (h : KR21 B a b) (g : KR21 B b c) : KR21 B a c := ⟨h.lo.trans g.lo, h.ot.trans g.ot⟩
theorem KR21.below {B : Nat} {a b c : World} (h : KR21 B a b) (hB : B < a.heap.size) (g : Below b.heap.size b c) : KR21 B a c := ⟨h.lo.trans (g.mono (by have := h.ot.1; omega)), h.ot.below g⟩
theorem KR21.set {B o : Nat} {a b : World} (h : KR21 B a b) (u : Value) : KR21 B a (b.setCell ⟨B, o, none⟩ u) := ⟨h.lo.setCell (p := ⟨B, o, none⟩) (Nat.le_refl _) u, h.ot.set B o u (.inl rfl)⟩
structure RS21 (w0 : World) (B : Nat) (va vl : Value) (l : List Nat) (vp : Value) (w : World) : Prop where
  b : Below w0.heap.size w0 w
  s : w0.heap.size ≤ B
  c : w.heap[B]? = some (.cells #[va, vl, vp] 60)
  r : RwX cB w0 vl l
  a : RowA w0 1 vl l.length (l.map cB)
  x : ∀ z ∈ l, z < 256
  n : l.length ≤ 140737480000000
theorem RS21.lt {w0 : World} {B : Nat} {va vl vp : Value} {l : List Nat} {w : World} (h : RS21 w0 B va vl l vp w) : B < w.heap.size := lt_16 h.c
theorem RS21.below {w0 : World} {B : Nat} {va vl vp : Value} {l : List Nat} {w w' : World} (h : RS21 w0 B va vl l vp w) (hb : Below w.heap.size w w') : RS21 w0 B va vl l vp w' := ⟨keepb hb h.b, h.s, (hb.block _ h.lt).trans h.c, h.r, h.a, h.x, h.n⟩
theorem RS21.left {w0 : World} {B : Nat} {va vl vp : Value} {l : List Nat} {w : World} (h : RS21 w0 B va vl l vp w) {vl' : Value} {l' : List Nat} (hr : RwX cB w0 vl' l') (ha : RowA w0 1 vl' l'.length (l'.map cB)) (hx : ∀ z ∈ l', z < 256) (hn : l'.length ≤ 140737480000000) : RS21 w0 B va vl' l' vp (w.setCell ⟨B, 1, none⟩ vl') :=
  ⟨h.b.setCell (p := ⟨B, 1, none⟩) h.s vl', h.s, by have := set_16 (o := 1) h.c vl'; simpa using this, hr, ha, hx, hn⟩
theorem rwx_take21 {W : World} {ao : Option Addr} {n c z : Nat} {l : List Nat} (h : RwX cB W (.slice ao n c) l) (hz : z ≤ l.length) : RwX cB W (.slice ao z c) (l.take z) := by
  have h2 : RwX cB W (.slice ao n c) (l.take z ++ l.drop z) := by rw [List.take_append_drop]; exact h
  have h3 := rwx_take h2
  rw [List.length_take, Nat.min_eq_left hz] at h3
  exact h3
set_option maxRecDepth 100000 in
set_option maxHeartbeats 4000000 in
theorem nextY21 (w0 : World) (B : Nat) (va vl : Value) (l : List Nat) (vp : Value) (n : Nat) (w : World) (h : RS21 w0 B va vl l vp w) (hn : n ≤ l.length) (h32 : n < 4294967296) :
    Calls Tryd.prog 44 #[.pointer (some ⟨B, 0, none⟩), .int .u32 (n : Int)] w fun r w' => ∃ v' vl', r = .returned v' ∧ RwX cB w0 v' (l.take n) ∧ RowA w0 1 v' n ((l.take n).map cB) ∧ RS21 w0 B va vl' (l.drop n) vp w' ∧ KR21 B w w' := by
  obtain ⟨i0, ji, jz0, jz1, jz2⟩ := info13 Tryd.infoB13
  obtain ⟨lo, lc, hvl, hlc, -⟩ := id h.r
  subst hvl
  have HS := hid13 h
  have z1 := at_16 h.c 1 _ rfl
  have f1 := fr_16 (j := 1) h.c
  have hlb := h.n
  have c1 : IntKind.u64.wrap (n : Int) = (n : Int) := by rw [IntKind.wrap_u64]; omega
  have c2 : IntKind.u64.wrap (l.length : Int) = (l.length : Int) := by rw [IntKind.wrap_u64]; omega
  have l1 : decide ((n : Int) ≤ (l.length : Int)) = true := decide_eq_true (by omega)
  have l1' : decide (n ≤ l.length) = true := decide_eq_true hn
  have hs1 : ∀ X, Sem.run Tryd.prog (Instr.sliceAt 22 (.slice lo l.length lc) none (some (.int .u32 (n : Int))) none) X = .ok (.slice lo n lc) X := by
    intro X
    have hk : n ≤ lc := by omega
    simp [Instr.sliceAt, Instr.slice, Instr.sliceBounds, Instr.sliceBound, run_underlying Tryd.underlying22, sizeOf, typeInfo, ji, hk, go_sem]
  have hs2 : ∀ X, Sem.run Tryd.prog (Instr.sliceAt 22 (.slice lo l.length lc) (some (.int .u32 (n : Int))) none none) X = .ok (.slice (if lc = n then lo else lo.map (·.add (n * 1))) (l.length - n) (lc - n)) X := by
    intro X
    simp [Instr.sliceAt, Instr.slice, Instr.sliceBounds, Instr.sliceBound, run_underlying Tryd.underlying22, sizeOf, typeInfo, ji, jz1, hn, go_sem]
  have HP : Hid (RwX cB w0 (.slice lo n lc) (l.take n) ∧ RowA w0 1 (.slice lo n lc) n ((l.take n).map cB) ∧ RwX cB w0 (.slice (if lc = n then lo else lo.map (·.add (n * 1))) (l.length - n) (lc - n)) (l.drop n) ∧ RowA w0 1 (.slice (if lc = n then lo else lo.map (·.add (n * 1))) (l.length - n) (lc - n)) (l.length - n) ((l.drop n).map cB)) := ⟨rwx_take21 h.r hn, rowA_take21 h.a hn, rwx_from h.r hn, rowA_from21 h.a hn⟩
  generalize (if lc = n then lo else lo.map (·.add (n * 1))) = zo at *
  have HN : Hid (n ≤ l.length) := hn
  clear h hn h32 hlc hlb
  go_enter Tryd.func44, Tryd.ntmps44
  go_wp2_with fail
  refine (askY21 22 w).mono ?_
  rintro e w1 ⟨rfl, hw1⟩
  replace hw1 := hw1.symm
  subst hw1
  go_wp2
  go_ret
  refine ⟨_, _, rfl, HP.out.1, HP.out.2.1, HS.out.left HP.out.2.2.1 ?_ ?_ ?_, (KR21.refl B w).set _⟩
  · rw [List.length_drop]; exact HP.out.2.2.2
  · exact fun z hz => HS.out.x z (List.mem_of_mem_drop hz)
  · rw [List.length_drop]; have := HS.out.n; omega
set_option maxRecDepth 100000 in
set_option maxHeartbeats 4000000 in
theorem nextN21 (w0 : World) (B : Nat) (va vl : Value) (l : List Nat) (vp : Value) (n : Nat) (w : World) (h : RS21 w0 B va vl l vp w) (hn : ¬ n ≤ l.length) (h32 : n < 4294967296) :
    Calls Tryd.prog 44 #[.pointer (some ⟨B, 0, none⟩), .int .u32 (n : Int)] w fun r w' => r = .panicked (pan21 22) ∧ w' = w := by
  obtain ⟨lo, lc, hvl, hlc, -⟩ := id h.r
  subst hvl
  have z1 := at_16 h.c 1 _ rfl
  have hlb := h.n
  have c1 : IntKind.u64.wrap (n : Int) = (n : Int) := by rw [IntKind.wrap_u64]; omega
  have c2 : IntKind.u64.wrap (l.length : Int) = (l.length : Int) := by rw [IntKind.wrap_u64]; omega
  have l1 : decide ((n : Int) ≤ (l.length : Int)) = false := decide_eq_false (by omega)
  have l1' : decide (n ≤ l.length) = false := decide_eq_false hn
  clear h hn h32 hlc hlb
  go_enter Tryd.func44, Tryd.ntmps44
  go_wp2_with fail
  refine (askN21 22 w).mono ?_
  rintro e w1 ⟨rfl, hw1⟩
  replace hw1 := hw1.symm
  subst hw1
  exact ⟨rfl, rfl, rfl⟩
set_option maxRecDepth 100000 in
set_option maxHeartbeats 4000000 in
theorem numY21 (w0 : World) (B : Nat) (va vl : Value) (l : List Nat) (vp : Value) (w : World) (h : RS21 w0 B va vl l vp w) (hn : 4 ≤ l.length) :
    Calls Tryd.prog 39 #[.pointer (some ⟨B, 0, none⟩)] w fun r w' => ∃ vl', r = .returned (.int .u32 ((numN13 (l.take 4) : Nat) : Int)) ∧ RS21 w0 B va vl' (l.drop 4) vp w' ∧ KR21 B w w' := by
  have K1 := nextY21 w0 B va vl l vp 4 w h hn (by decide)
  have HS := hid13 h
  have HN := hid13 hn
  clear h hn
  go_enter Tryd.func39, Tryd.ntmps39
  go_wp2_with fail
  refine K1.mono ?_
  rintro e w1 ⟨v1, vl1, rfl, hr1, ha1, hs1, hk1⟩
  have hlt4 : (l.take 4).length = 4 := by rw [List.length_take]; have := HN.out; omega
  have K2 := get32_any v1 (l.take 4) 0 w1 (hr1.below (hs1.b)) (by rw [hlt4]; decide) (fun b hb => HS.out.x b (List.mem_of_mem_take hb)) (by decide) (by decide)
  have e1 : gtN (l.take 4) 0 4 = numN13 (l.take 4) := by
    unfold gtN
    rw [if_pos ⟨by decide, by rw [hlt4]; decide⟩]
    congr 1
    rw [show (0 : Int).toNat = 0 from rfl, List.drop_zero, List.take_of_length_le (by rw [hlt4]; exact Nat.le_refl _)]
  rw [e1] at K2
  have H1 := hid13 (And.intro hs1 hk1)
  obtain ⟨o1, c1, hv1⟩ : ∃ o c, v1 = .slice o 4 c := by obtain ⟨-, o, c, hh, -⟩ := ha1; exact ⟨o, c, hh⟩
  subst hv1
  generalize gtE (l.take 4) 0 4 = y at *
  obtain ⟨m, hm⟩ : ∃ m, m = numN13 (l.take 4) := ⟨_, rfl⟩
  have HM := hid13 hm
  rw [← hm] at K2
  clear hm
  clear K1 hr1 ha1 hs1 hk1 e1 hlt4
  go_wp2_with fail
  refine K2.mono ?_
  rintro e w2 ⟨rfl, hb⟩
  have H2 := hid13 hb
  clear hb K2
  go_wp2
  go_ret
  exact ⟨_, by rw [← HM.out]; rfl, H1.out.1.below H2.out, H1.out.2.below HS.out.lt H2.out⟩
set_option maxRecDepth 100000 in
set_option maxHeartbeats 4000000 in
theorem numN21 (w0 : World) (B : Nat) (va vl : Value) (l : List Nat) (vp : Value) (w : World) (h : RS21 w0 B va vl l vp w) (hn : ¬ 4 ≤ l.length) :
    Calls Tryd.prog 39 #[.pointer (some ⟨B, 0, none⟩)] w fun r w' => r = .panicked (pan21 22) ∧ w' = w := by
  have K1 := nextN21 w0 B va vl l vp 4 w h hn (by decide)
  clear h hn
  go_enter Tryd.func39, Tryd.ntmps39
  go_wp2_with fail
  refine K1.mono ?_
  rintro e w1 ⟨rfl, hw1⟩
  replace hw1 := hw1.symm
  subst hw1
  exact ⟨rfl, rfl, rfl⟩
end Go.Proofs.YtiachojhnbicaabDoor
namespace Go.Proofs.YtiachojhnbicaabDoor
open Go.RowKit Go.Shelf
set_option linter.unusedSimpArgs false
set_option linter.unusedVariables false
attribute [local go_sem] Oper.semAt_some

set_option maxRecDepth 100000 in
set_option maxHeartbeats 4000000 in
theorem isWide21 (v : Value) (l : List Int) (w : World) (hv : RwX cI w v l) (hl : l.length ≤ 1000) (hx : ∀ z ∈ l, 0 ≤ z ∧ z ≤ 4294967295) :
    Calls Tryd.prog 24 #[v] w fun e w' => e = .returned (.bool false) ∧ Below w.heap.size w w' := by
  obtain ⟨ao, c, hvf, hc, hr⟩ := id hv
  subst hvf
  have HT := hid13 hv
  have HB : Hid (Below w.heap.size w w) := Below.refl _ _
  have HX := hid13 hx
  have HL := hid13 hl
  clear hv hl hx hr hc
  go_enter Tryd.func24, Tryd.ntmps24
  go_wp2
  go_loopg [7] l.length (fun g x wr => ∃ (k : Nat), k + g = l.length ∧ x = .int .i64 (k : Int) ∧ Hid (RwX cI wr (.slice ao l.length c) l ∧ Below w.heap.size w wr))
  case atStart => exact ⟨0, by omega, rfl, ⟨HT.out, HB.out⟩⟩
  case round =>
    clear HT HB
    obtain ⟨k, hk, rfl, HW⟩ := hrel
    by_cases hlt : k < l.length
    · have l1 : (k : Int) < (l.length : Int) := by omega
      obtain ⟨x, hx⟩ : ∃ x, l[k]? = some x := ⟨l[k], by simp [hlt]⟩
      obtain ⟨b1, f1, hao, r0⟩ : ∃ b off, ao = some ⟨b, off, none⟩ ∧ wr.cell? ⟨b, off + k, none⟩ = some (.int .i64 x) := by
        obtain ⟨ao', c', e, hc, hr⟩ := HW.out.1
        injection e with e1 e2 e3
        subst e1
        rcases hr with h | ⟨b, off, h1, h2⟩
        · rw [h] at hlt; simp at hlt
        · exact ⟨b, off, h1, h2 k x hx⟩
      subst hao
      have hxb := HX.out x (List.mem_of_getElem? hx)
      have n0 : 0 ≤ x := hxb.1
      have n1 : ¬ 4294967295 < x := by omega
      have wu : IntKind.u64.wrap x = x := by rw [IntKind.wrap_u64]; omega
      have wk : IntKind.i64.wrap ((k : Int) + 1) = (k : Int) + 1 := by rw [IntKind.wrap_i64]; have := HL.out; omega
      have HK : Hid (k < l.length ∧ k + gk = l.length) := ⟨hlt, hk⟩
      clear hx hlt hk hxb
      go_wp2
      go_roundg (gk - 1)
      case measure => have := HK.out; omega
      case rel => exact ⟨k + 1, by have := HK.out; omega, rfl, HW⟩
    · have l1 : ¬ (k : Int) < (l.length : Int) := by omega
      clear hlt hk
      go_wp2
      go_ret
      exact ⟨rfl, HW.out.2⟩
theorem lit_rwx21 {α : Type} {f : α → Value} (w : World) (cs : Array Value) (T : TypeId) (fr : Nat × Nat) (l : List α) (h : cs.toList = l.map f) : RwX f (w.alloc (.cells cs T fr)) (.slice (some ⟨w.heap.size, 0, none⟩) l.length l.length) l := by
  refine ⟨_, _, rfl, Nat.le_refl _, .inr ⟨w.heap.size, 0, rfl, fun j x hj => ?_⟩⟩
  have e : (w.alloc (.cells cs T fr)).heap[w.heap.size]? = some (.cells cs T fr) := by
    show (w.heap.push _)[w.heap.size]? = _
    simp
  have hc : cs[j]? = some (f x) := by
    rw [← Array.getElem?_toList, h, List.getElem?_map, hj]; rfl
  rw [Nat.zero_add]
  rw [cell_of_row _ _ _ _ _ _ e]; exact hc
theorem len_le_wt21 {L : List Pt} {k : Nat} {p : Pt} (h : L[k]? = some p) : p.x.length ≤ wt21 L := by
  have h1 := wt21_take h
  have h2 := wt21_le (L := L) (k + 1)
  omega
set_option maxRecDepth 100000 in
set_option maxHeartbeats 8000000 in
theorem mayBe21 (n : Nat) (v : Value) (L : List Pt) (w : World) (hn : n < 4294967296) (hv : PtR21 w v L) (hl : L.length < 4294967296) (hw : wt21 L < 4294967296) :
    Calls Tryd.prog 12 #[.int .i64 (n : Int), v] w fun e w' => e = .returned (.int .i64 (if fitB n L then 0 else 33)) ∧ Below w.heap.size w w' := by
  obtain ⟨ao, c, hvf, -⟩ := id hv
  subst hvf
  have K1 := fit21 (n : Int) (.slice ao L.length c) L w (by omega) (by omega) hv (by omega)
  have HT := hid13 hv
  have HL : Hid (n < 4294967296 ∧ L.length < 4294967296 ∧ wt21 L < 4294967296) := ⟨hn, hl, hw⟩
  clear hv hl hn hw
  cases hfb : fitB (n : Int) L with
  | false =>
    rw [hfb] at K1
    simp only [Bool.false_eq_true, if_false]
    clear hfb
    go_enter Tryd.func12, Tryd.ntmps12
    go_wp2_with fail
    refine K1.mono ?_
    rintro e w1 ⟨rfl, hb⟩
    have HB1 := hid13 hb
    clear hb K1
    go_wp2
    go_ret
    exact ⟨rfl, HB1.out⟩
  | true =>
    have HF : Hid (fitB (n : Int) L = true) := hfb
    rw [hfb] at K1
    simp only [if_true]
    clear hfb
    go_enter Tryd.func12, Tryd.ntmps12
    go_wp2_with fail
    refine K1.mono ?_
    rintro e w1 ⟨rfl, hb⟩
    have HB1 := hid13 hb
    clear hb K1
    have q2 := bl1 w1 (.cells #[.int .i64 (n : Int), .int .i64 (L.length : Int)] 3)
    have r2 := lit_rwx21 (f := cI) w1 #[.int .i64 (n : Int), .int .i64 (L.length : Int)] 3 (0, 0) [(n : Int), (L.length : Int)] rfl
    have K2 := isWide21 _ _ _ r2 (by show 2 ≤ 1000; decide) (by
      intro z hz
      have := HL.out
      simp only [List.mem_cons, List.mem_nil_iff, or_false] at hz
      rcases hz with rfl | rfl <;> omega)
    have HB2 : Hid (Below w.heap.size w _) := hid13 (keepb q2 HB1.out)
    clear q2 r2 HB1
    go_wp2_with fail
    refine K2.mono ?_
    rintro e w2 ⟨rfl, hb⟩
    have HB3 : Hid (Below w.heap.size w w2) := hid13 (keepb hb HB2.out)
    clear hb K2 HB2
    go_wp2
    go_loopg [18] L.length (fun g x wr => ∃ (k : Nat) (m : Int), k + g = L.length ∧ x = .int .i64 (k : Int) ∧ Hid (ftS n (L.take k) = some m) ∧ Hid (Below w.heap.size w wr))
    case atStart => exact ⟨0, n, by omega, rfl, rfl, HB3.out⟩
    case round =>
      clear HB3
      obtain ⟨k, m, hk, rfl, HM, HB⟩ := hrel
      by_cases hlt : k < L.length
      · have l1 : (k : Int) < (L.length : Int) := by omega
        obtain ⟨p, hp⟩ : ∃ p, L[k]? = some p := ⟨L[k], by simp [hlt]⟩
        obtain ⟨b1, f1, xo, xc, hao, r0, r1, r2, -, -⟩ := ptr_at (HT.out.below HB.out) hp
        subst hao
        obtain ⟨hok, hnx⟩ := ftS_ok HF.out hp HM.out
        have hmb := ftS_bd (Int.natCast_nonneg n) _ _ HM.out
        have hxl := len_le_wt21 hp
        have HK : Hid (k < L.length ∧ k + gk = L.length ∧ ftS n (L.take (k + 1)) = some (m - p.k - p.d)) := ⟨hlt, hk, hnx⟩
        have HZ : Hid (∀ z ∈ [p.k, p.d, (p.x.length : Int)], 0 ≤ z ∧ z ≤ 4294967295) := by
          intro z hz
          have := HL.out
          obtain ⟨o1, o2, o3, o4⟩ := hok
          simp only [List.mem_cons, List.mem_nil_iff, or_false] at hz
          rcases hz with rfl | rfl | rfl <;> omega
        have wk : IntKind.i64.wrap ((k : Int) + 1) = (k : Int) + 1 := by rw [IntKind.wrap_i64]; have := HL.out; omega
        have q1 := bl1 wr (.cells #[.int .i64 p.k, .int .i64 p.d, .slice xo p.x.length xc] 38)
        have HB1 : Hid (Below w.heap.size w _) := hid13 (keepb q1 HB.out)
        clear hok hnx hp hlt hk hmb hxl q1 HM HB
        have q2 := bl1 (wr.alloc (.cells #[.int .i64 p.k, .int .i64 p.d, .slice xo p.x.length xc] 38)) (.cells #[.int .i64 p.k, .int .i64 p.d, .int .i64 (p.x.length : Int)] 3)
        have r4 := lit_rwx21 (f := cI) (wr.alloc (.cells #[.int .i64 p.k, .int .i64 p.d, .slice xo p.x.length xc] 38)) #[.int .i64 p.k, .int .i64 p.d, .int .i64 (p.x.length : Int)] 3 (0, 0) [p.k, p.d, (p.x.length : Int)] rfl
        have K2 := isWide21 _ _ _ r4 (by show 3 ≤ 1000; decide) HZ.out
        rw [show (wr.alloc (.cells #[.int .i64 p.k, .int .i64 p.d, .slice xo p.x.length xc] 38)).heap.size = wr.heap.size + 1 by simp] at K2
        have HB2 : Hid (Below w.heap.size w _) := hid13 (keepb q2 HB1.out)
        clear q2 r4 HB1 HZ
        go_wp2_with fail
        refine K2.mono ?_
        rintro e w4 ⟨rfl, hb⟩
        have HB4 : Hid (Below w.heap.size w w4) := hid13 (keepb hb HB2.out)
        clear hb K2 HB2 r0 r1 r2
        go_wp2
        go_roundg (gk - 1)
        case measure => have := HK.out; omega
        case rel => exact ⟨k + 1, m - p.k - p.d, by have := HK.out; omega, rfl, HK.out.2.2, HB4⟩
      · have l1 : ¬ (k : Int) < (L.length : Int) := by omega
        clear hlt hk
        go_wp2
        go_ret
        exact ⟨rfl, HB.out⟩
def cN21 (n : Nat) : Value := .int .u32 (n : Int)
def LdR (base : Nat) (w : World) (v : Value) (l : List Nat) : Prop := w.ownsRow base 5 1 v l.length (l.map cB) ∨ ((∃ ad : Addr, v = .slice (some ad) l.length l.length) ∧ RowA w 1 v l.length (l.map cB))
def KT21 (w w' : World) : Prop := ∀ (z : Nat) (cs : Array Value) (T : TypeId) (fr : Nat × Nat), 5 ≠ T → w.heap[z]? = some (.cells cs T fr) → w'.heap[z]? = some (.cells cs T fr)
theorem KT21.refl (w : World) : KT21 w w := fun _ _ _ _ _ h => h
theorem KT21.trans {w w' w'' : World} (h : KT21 w w') (h' : KT21 w' w'') : KT21 w w'' := fun z cs T fr hT hz => h' z cs T fr hT (h z cs T fr hT hz)
theorem KT21.of_below {w w' : World} (h : Below w.heap.size w w') : KT21 w w' := fun z cs T fr _ hz => (h.block _ (lt_16 hz)).trans hz
theorem KT21.grown {w w' : World} {base e size n : Nat} {v : Value} {xs : List Value} (ho : w.ownsRow base 5 size v n xs) (h : w.grownBy w' v.ownBlock) : KT21 w w' := fun z cs T fr hT hz => (h.block _ (lt_16 hz) (fun e => own_not18 ho hz hT e.symm)).trans hz
theorem nil_rowA21 (w : World) : RowA w 1 (.slice none 0 0) ([] : List Nat).length (([] : List Nat).map cB) := ⟨rfl, none, 0, rfl, Nat.le_refl _, .inl ⟨rfl, rfl, rfl⟩⟩
theorem by4_len21 (n : Nat) : (by4 n).length = 4 := rfl
theorem flat4_len21 : ∀ (ns : List Nat), (ns.flatMap by4).length = 4 * ns.length
  | [] => rfl
  | n :: ns => by rw [List.flatMap_cons, List.length_append, flat4_len21 ns, by4_len21, List.length_cons]; omega
def ld21 (l ns : List Nat) : List Nat := l ++ ns.flatMap by4
set_option maxRecDepth 100000 in
set_option maxHeartbeats 8000000 in
theorem laid21 (base : Nat) (v : Value) (l : List Nat) (NB : Nat) (cs : Array Value) (ns : List Nat) (w : World) (hv : LdR base w v l) (hbs : base ≤ w.heap.size) (hN : w.heap[NB]? = some (.cells cs 31)) (hcs : cs.toList = ns.map cN21) (hn : ns.length ≤ 1000) (hx : ∀ n ∈ ns, n < 4294967296) (hl : l.length ≤ 140737480000000) :
    Calls Tryd.prog 13 #[v, .slice (some ⟨NB, 0, none⟩) ns.length ns.length] w fun e w' => ∃ v', e = .returned v' ∧ LdR base w' v' (ld21 l ns) ∧ (0 < ns.length → w'.ownsRow base 5 1 v' (ld21 l ns).length ((ld21 l ns).map cB)) ∧ Below base w w' ∧ KT21 w w' := by
  obtain ⟨i0, ji, jz0, jz1, jz2⟩ := info13 Tryd.infoB13
  have HV := hid13 hv
  have HN : Hid (w.heap[NB]? = some (.cells cs 31) ∧ cs.toList = ns.map cN21) := ⟨hN, hcs⟩
  have HL : Hid (ns.length ≤ 1000 ∧ l.length ≤ 140737480000000 ∧ base ≤ w.heap.size) := ⟨hn, hl, hbs⟩
  have HX := hid13 hx
  obtain ⟨vo, vc, hvf⟩ : ∃ o c, v = .slice o l.length c := by
    rcases hv with h | ⟨⟨ad, h⟩, -⟩
    · exact own_form h
    · exact ⟨_, _, h⟩
  subst hvf
  clear hv hN hcs hn hx hl hbs
  go_enter Tryd.func13, Tryd.ntmps13
  go_wp2
  go_loopg [0, 9] ns.length (fun g vr x wr => ∃ (k : Nat) (cur : List Nat) (ro : Option Addr) (rc : Nat), k + g = ns.length ∧ vr = .slice ro cur.length rc ∧ x = .int .i64 (k : Int) ∧ Hid (cur = l ++ (ns.take k).flatMap by4) ∧ Hid (LdR base wr (.slice ro cur.length rc) cur) ∧ Hid (0 < k → wr.ownsRow base 5 1 (.slice ro cur.length rc) cur.length (cur.map cB)) ∧ Hid (Below base w wr ∧ KT21 w wr))
  case atStart => exact ⟨0, l, vo, vc, by omega, rfl, rfl, by show _ = _; simp, HV.out, fun h => absurd h (Nat.lt_irrefl _), Below.refl _ _, KT21.refl _⟩
  case round =>
    clear HV
    obtain ⟨k, cur, ro, rc, hk, rfl, rfl, HC, HD, HO, HB⟩ := hrel
    by_cases hlt : k < ns.length
    rotate_left 1
    · have l1 : ¬ (k : Int) < (ns.length : Int) := by omega
      have HE : Hid (cur = ld21 l ns ∧ (0 < ns.length → 0 < k)) := by
        refine ⟨?_, fun h => ?_⟩
        · have := HC.out
          rw [List.take_of_length_le (by omega)] at this
          exact this
        · omega
      clear hlt hk
      go_wp2
      go_ret
      exact ⟨_, rfl, by rw [← HE.out.1]; exact HD.out, fun h => by rw [← HE.out.1]; exact HO.out (HE.out.2 h), HB.out⟩
    have l1 : (k : Int) < (ns.length : Int) := by omega
    obtain ⟨n, hn⟩ : ∃ n, ns[k]? = some n := ⟨ns[k], by simp [hlt]⟩
    have hcell : wr.heap[NB]? = some (.cells cs 31) := HB.out.2 _ _ _ _ (by decide) HN.out.1
    have r0 : wr.cell? ⟨NB, k, none⟩ = some (.int .u32 (n : Int)) := by
      rw [cell_of_row _ _ _ _ _ _ hcell, ← Array.getElem?_toList, HN.out.2, List.getElem?_map, hn]; rfl
    have hn32 := HX.out n (List.mem_of_getElem? hn)
    have hcl : cur.length = l.length + 4 * k := by rw [HC.out, List.length_append, flat4_len21, List.length_take]; omega
    have wk : IntKind.i64.wrap ((k : Int) + 1) = (k : Int) + 1 := by rw [IntKind.wrap_i64]; have := HL.out; omega
    have HK : Hid (k < ns.length ∧ k + gk = ns.length ∧ cur ++ by4 n = l ++ (ns.take (k + 1)).flatMap by4 ∧ cur.length ≤ 140737480004000) := by
      refine ⟨hlt, hk, ?_, by have := HL.out; omega⟩
      rw [HC.out, List.take_add_one, hn, List.flatMap_append]
      simp
    have K1 := put32_any (.slice none 0 0) [] n wr (nil_rowA21 wr) (by decide) hn32
    clear hcell hn hn32 hlt hk hcl
    go_wp2_with fail
    refine K1.mono ?_
    rintro e w2 ⟨v2, rfl, ho2, hb2⟩
    rw [List.nil_append] at ho2
    have HB2 : Hid (Below base w w2 ∧ KT21 w w2) := ⟨HB.out.1.trans (hb2.mono (Nat.le_trans HL.out.2.2 HB.out.1.size)), HB.out.2.trans (KT21.of_below hb2)⟩
    have hs2 : base ≤ w2.heap.size := Nat.le_trans HL.out.2.2 HB2.out.1.size
    have hA2 := own_rowA ho2
    have HD2 : Hid (LdR base w2 (.slice ro cur.length rc) cur) := by
      rcases HD.out with h | ⟨h1, h2⟩
      · exact .inl (own_b13 hb2 h)
      · exact .inr ⟨h1, h2.below hb2⟩
    have hA2' : ∃ ad c, v2 = .slice (some ad) 4 c ∧ ∀ j u, ((by4 n).map cB)[j]? = some u → w2.cell? (ad.add j) = some u := by
      obtain ⟨-, xo, xc, h1, -, h3⟩ := hA2
      rcases h3 with ⟨-, -, h3⟩ | ⟨ad, rfl, h3⟩
      · cases h3
      · exact ⟨ad, xc, h1, h3⟩
    obtain ⟨ad, xc, rfl, hcA⟩ := hA2'
    clear K1 hb2 ho2 HB HD HO r0
    rcases HD2.out with hown | ⟨⟨fd, hf⟩, hfA⟩
    · go_wp2_with (at_builtin; apply stopHere9)
      refine (show wpList _ _ _ _ _ _ from ?_)
      refine wpList_append_rowA rfl _ _ 22 rfl base 5 i0 (.int .u8 0) 1 1 Tryd.underlying22 ji jz0 jz1 jz2 rfl (by decide) _ cur.length (cur.map cB) rfl hown _ 4 ((by4 n).map cB) rfl hA2 (cB_one _) (by have := HK.out; unfold maxLen; omega) (by have := HK.out; omega) hs2 ?_
      intro ao4 c4 w4 hO4 hg4
      have HB4 : Hid (Below base w w4 ∧ KT21 w w4) := ⟨HB2.out.1.grown hg4 hs2 (fun z hz => (hown.lt z hz).1), HB2.out.2.trans (KT21.grown (e := 0) hown hg4)⟩
      obtain ⟨c2, hc2⟩ : ∃ c2, c2 = cur ++ by4 n := ⟨_, rfl⟩
      have hl2 : cur.length + 4 = c2.length := by rw [hc2, List.length_append, by4_len21]
      rw [← List.map_append, ← hc2, hl2] at hO4
      rw [hl2]
      have HO4 := hid13 hO4
      have HC2 : Hid (c2 = l ++ (ns.take (k + 1)).flatMap by4) := by rw [hc2]; exact HK.out.2.2.1
      clear hO4 hg4 hown hA2 hcA HD2 HB2 hc2 hl2 hs2
      go_wp2
      go_roundg (gk - 1)
      case measure => have := HK.out; omega
      case rel => exact ⟨k + 1, c2, ao4, c4, by have := HK.out; omega, rfl, rfl, HC2, .inl HO4.out, fun _ => HO4.out, HB4⟩
    · injection hf with hf1 hf2 hf3
      subst hf1 hf3
      have holds : ∀ j u, (cur.map cB)[j]? = some u → w2.cell? (fd.add j) = some u := by
        obtain ⟨-, xo, xc, h1, -, h3⟩ := hfA
        injection h1 with h1 h4 h5
        subst h1
        rcases h3 with ⟨h3, -, -⟩ | ⟨ad', h2, h3⟩
        · cases h3
        · injection h2 with h2; subst h2; exact h3
      go_wp2_with (at_builtin; apply stopHere9)
      refine (show wpList _ _ _ _ _ _ from ?_)
      refine wpList_append_grows _ rfl _ _ 22 rfl 5 i0 (.int .u8 0) 1 1 Tryd.underlying22 ji jz0 jz1 jz2 rfl (by decide) (some fd) cur.length cur.length (cur.map cB) rfl (fun h => by cases h) (by rw [List.length_map, Nat.mul_one]) (fun b h j u hj => by injection h with h; subst h; exact holds j u hj) ad 4 xc ((by4 n).map cB) rfl rfl hcA (cB_one _) (by omega) (by have := HK.out; unfold maxLen; omega) (by have := HK.out; omega) ?_
      intro v4 w4 hO4 hg4
      have HB4 : Hid (Below base w w4 ∧ KT21 w w4) := ⟨HB2.out.1.grown hg4 hs2 (fun z hz => by cases hz), HB2.out.2.trans (KT21.of_below ((Below.refl _ _).grown hg4 (Nat.le_refl _) (fun z hz => by cases hz)))⟩
      obtain ⟨c2, hc2⟩ : ∃ c2, c2 = cur ++ by4 n := ⟨_, rfl⟩
      have hl2 : cur.length + 4 = c2.length := by rw [hc2, List.length_append, by4_len21]
      rw [← List.map_append, ← hc2, hl2] at hO4
      have HO4 := hid13 (own_base16 hO4 hs2)
      have HC2 : Hid (c2 = l ++ (ns.take (k + 1)).flatMap by4) := by rw [hc2]; exact HK.out.2.2.1
      obtain ⟨o4, c4, hv4⟩ := own_form hO4
      subst hv4
      clear hO4 hg4 hA2 hcA HD2 HB2 hc2 hl2 hs2 hfA holds
      go_wp2
      go_roundg (gk - 1)
      case measure => have := HK.out; omega
      case rel => exact ⟨k + 1, c2, o4, c4, by have := HK.out; omega, rfl, rfl, HC2, .inl HO4.out, fun _ => HO4.out, HB4⟩
end Go.Proofs.YtiachojhnbicaabDoor
