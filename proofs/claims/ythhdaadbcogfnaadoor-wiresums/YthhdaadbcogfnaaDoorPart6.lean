/-
  Part 6 of the proof: 4 texts, one behind the other.
-/
import Derived.Test.YthhdaadbcogfnaaDoorPart3
import Derived.Test.YthhdaadbcogfnaaDoorPart4
import Derived.Test.YthhdaadbcogfnaaDoorPart5
import Derived.Test.YthhdaadbcogfnaaDoorPart2
import Derived.Deep.Slices
import Derived.Carry
import Derived.SizedLaws
import Derived.ProofKit
import Derived.Lib.SmallJoins
/-
  append of a handed-in row onto one's own: where the result lies. The memory of the law WireSums.
-/
namespace Go.Proofs.YthhdaadbcogfnaaDoor
open Go.RowKit
set_option linter.unusedSimpArgs false
set_option linter.unusedVariables false

theorem run_append_zero {P : Program} {w : World} (base : Nat) (t ty e : TypeId) (i : TypeInfo) (size : Nat) (ht : P.underlying t = some (.slice e)) (hi : P.info? e = some i)
    (v : Value) (n : Nat) (xs : List Value) (hown : w.ownsRow base e size v n xs) (ad : Addr) (c : Nat) :
    (Builtin.append_ #[t, t] ty #[v, .slice (some ad) 0 c]).run P w = .ok v w := by
  rcases hown.2 with ⟨rfl, rfl⟩ | ⟨g, cap, cur, rfl, _, _, hnc, _⟩
  · simp [Builtin.append_, run_underlying ht, sizeOf, typeInfo, hi, Builtin.lenOf, Builtin.firstCells, loadCells, loadCellsFrom, Result.andThen]
  · simp [Builtin.append_, run_underlying ht, sizeOf, typeInfo, hi, Builtin.lenOf, Builtin.firstCells, hnc, storeCells, loadCells, loadCellsFrom, Result.andThen]
theorem wpList_append_rowH {P : Program} {w : World} {ops : Array Oper} {rest : List Oper} {o : Oper} {a : Act} {Q : Exit → Act → World → Prop} (hgd : o.guard = none) (s x : Operand) (t : TypeId)
    (ho : o.op = .call { callee := .builtin .append, args := #[s, x], argTypes := #[t, t] })
    (base : Nat) (e : TypeId) (i : TypeInfo) (z : Value) (size bytes : Nat) (ht : P.underlying t = some (.slice e)) (hi : P.info? e = some i) (hz : i.zero = some z)
    (hsize : i.size = size) (hby : i.bytes = bytes) (hzs : z.cells.size = size) (hsz : 0 < size)
    (v : Value) (n : Nat) (xs : List Value) (hs : a.eval s = v) (hown : w.ownsRow base e size v n xs)
    (vx : Value) (m : Nat) (news : List Value) (hx : a.eval x = vx) (hsrc : RowA w size vx m news) (h1 : ∀ y ∈ news, y.oneCell' = true)
    (h63 : n + m ≤ maxLen) (hbytes : (n + m) * bytes ≤ 140737488355328) (hbase : base ≤ w.heap.size)
    (h : ∀ ao cap w', w'.ownsRow base e size (.slice ao (n + m) cap) (n + m) (xs ++ news) → w.grownBy w' v.ownBlock → (∀ z, (Value.slice ao (n + m) cap).ownBlock = some z → v.ownBlock = some z ∨ z = w.heap.size) → wpList P ops Q rest (a.put o.dst (.slice ao (n + m) cap)) w') : wpList P ops Q (o :: rest) a w := by
  obtain ⟨hl, xo, c, rfl, hcc, hsrc⟩ := hsrc
  obtain ⟨ao, cp, hv⟩ := own_form hown
  by_cases hm : m = 0
  · subst hm
    have : news = [] := List.eq_nil_of_length_eq_zero (by omega)
    subst this
    have h9 := h ao cp w (by rw [List.append_nil, Nat.add_zero, ← hv]; exact hown) ⟨rfl, rfl, rfl, Nat.le_refl _, fun _ _ _ => rfl⟩ (by rw [Nat.add_zero, ← hv]; exact fun z hz => .inl hz)
    rw [Nat.add_zero, ← hv] at h9
    rcases hsrc with ⟨rfl, rfl, -⟩ | ⟨ad, rfl, hc⟩
    · exact wpList_append_own_none hgd s x t ho base e i size ht hi v n xs hs hown hx h9
    · refine wpList_plain hgd fun K hK => ?_
      have hrun := run_append_zero (P := P) (w := w) base t o.type e i size ht hi v n xs hown ad c
      unfold Oper.wp
      simp [execOp, ho, resolve, invoke, builtin, hs, hx, hrun, Result.andThen]
      exact hK _ _ h9
  · rcases hsrc with ⟨-, -, h0⟩ | ⟨ad, rfl, hc⟩
    · exact absurd h0 hm
    · refine wpList_append_lies w hgd s x t ho base e i z size bytes ht hi hz hsize hby hzs hsz v n xs hs hown ad m c news hx hl hc h1 (by omega) h63 hbytes hbase _ rfl ?_
      intro g cap w' h2 h3 h4 h5
      exact h _ _ w' h2 h3 (fun z hz => by injection hz with hz; subst hz; exact h4)
/-- A lent row. -/
def cG (q : Nat × List Nat) : Value := .slice (some ⟨q.1, 0, none⟩) q.2.length (q.2.length + 9)
/-- What the first loop has laid: all bytes, the lent rows. -/
structure SM (w W : World) (va vm : Value) (A : List Nat) (G : List (Nat × List Nat)) : Prop where
  b : Below w.heap.size w W
  a : W.ownsRow w.heap.size 5 1 va A.length (A.map cB)
  m : W.ownsRow w.heap.size 24 1 vm G.length (G.map cG)
  l : ∀ q ∈ G, W.ownsRow w.heap.size 5 1 (.slice (some ⟨q.1, 0, none⟩) (q.2.length + 9) (q.2.length + 9)) (q.2.length + 9) ((mkZ q.2 9).map cB)
  n : ∀ q ∈ G, va.ownBlock ≠ some q.1
section
variable {w W W' : World} {va vm v' : Value} {A : List Nat} {G : List (Nat × List Nat)}
theorem own_type {base base' e e' s s' n n' : Nat} {v u : Value} {xs ys : List Value} (h : W.ownsRow base e s v n xs) (k : W.ownsRow base' e' s' u n' ys) (hne : e ≠ e') {z : Nat} (hz : v.ownBlock = some z) : u.ownBlock ≠ some z := by
  intro q
  rcases h.2 with ⟨rfl, -⟩ | ⟨g, cap, cur, rfl, -, h2, -⟩
  · cases hz
  · rcases k.2 with ⟨rfl, -⟩ | ⟨g', cap', cur', rfl, -, k2, -⟩
    · cases q
    · simp only [Value.ownBlock, Option.some.injEq] at hz q
      subst hz q
      rw [h2] at k2
      injection k2 with k2
      injection k2 with k3 k4
      exact hne k4
theorem SM.below (h : SM w W va vm A G) (hb : Below W.heap.size W W') : SM w W' va vm A G := ⟨keepb hb h.b, own_b13 hb h.a, own_b13 hb h.m, fun q hq => own_b13 hb (h.l q hq), h.n⟩
theorem SM.appA {X : List Nat} (h : SM w W va vm A G) (hg : W.grownBy W' va.ownBlock) (ho : W'.ownsRow w.heap.size 5 1 v' (A ++ X).length ((A ++ X).map cB)) (hat : ∀ z, v'.ownBlock = some z → va.ownBlock = some z ∨ z = W.heap.size) : SM w W' v' vm (A ++ X) G := by
  refine ⟨h.b.grown hg h.b.size (fun z e => (h.a.lt z e).1), ho, h.m.kept hg ?_, fun q hq => (h.l q hq).kept hg (.inr fun e => h.n q hq e.symm), fun q hq e => ?_⟩
  · cases hv : vm.ownBlock with
    | none => exact .inl rfl
    | some z => exact .inr fun e => own_type h.a h.m (by decide) e.symm hv
  · rcases hat _ e with e | e
    · exact h.n q hq e
    · have := (h.l q hq).lt q.1 rfl
      omega
theorem SM.appM {g : Nat} {l : List Nat} (h : SM w W va vm A G) (hl : W.ownsRow w.heap.size 5 1 (.slice (some ⟨g, 0, none⟩) (l.length + 9) (l.length + 9)) (l.length + 9) ((mkZ l 9).map cB)) (hn : va.ownBlock ≠ some g) (hg : W.grownBy W' vm.ownBlock) (ho : W'.ownsRow w.heap.size 24 1 v' (G ++ [(g, l)]).length ((G ++ [(g, l)]).map cG)) : SM w W' va v' A (G ++ [(g, l)]) := by
  have far : ∀ {n n' : Nat} {u : Value} {ys : List Value}, W.ownsRow w.heap.size 5 1 u n ys → u.ownBlock = none ∨ vm.ownBlock ≠ u.ownBlock := fun {n n' u ys} k => by
    cases hv : u.ownBlock with
    | none => exact .inl rfl
    | some z => exact .inr fun e => own_type k h.m (by decide) hv e
  refine ⟨h.b.grown hg h.b.size (fun z e => (h.m.lt z e).1), h.a.kept hg ?_, ho, fun q hq => ?_, fun q hq => ?_⟩
  · cases hv : va.ownBlock with
    | none => exact .inl rfl
    | some z => exact .inr fun e => own_type h.a h.m (by decide) hv e.symm
  · rcases List.mem_append.1 hq with hq | hq
    · exact (h.l q hq).kept hg (.inr fun e => own_type (h.l q hq) h.m (by decide) rfl e.symm)
    · rw [List.mem_singleton] at hq
      subst hq
      exact hl.kept hg (.inr fun e => own_type hl h.m (by decide) rfl e.symm)
  · rcases List.mem_append.1 hq with hq | hq
    · exact h.n q hq
    · rw [List.mem_singleton] at hq
      subst hq
      exact hn
end
end Go.Proofs.YthhdaadbcogfnaaDoor
/-
  How rows of numbers that are handed in read as data.
-/
namespace Go.Proofs.YthhdaadbcogfnaaDoor
open Go.ChangeShapes Go.WideShapes Go.ChangeAt Go.RowKit Go.Joins
set_option linter.unusedSimpArgs false
set_option linter.unusedVariables false

theorem Tryd.laidOut : laidOutB Tryd.prog = true := by kernel_rfl
theorem reach13 : reachBytes ≤ 140737488351232 := by decide
section
variable {H : Type} {enc : TypeId × Value → H} {w : World} {spare : Nat → Bool} {held : Bool}
theorem RwX.map13 {α β : Type} {f : α → Value} {g : β → Value} (h : α → β) {v : Value} {l : List α} (hr : RwX f w v l) (he : ∀ x ∈ l, f x = g (h x)) : RwX g w v (l.map h) := by
  obtain ⟨ao, c, e, hc, hr⟩ := hr
  refine ⟨ao, c, by rw [List.length_map]; exact e, by rw [List.length_map]; exact hc, ?_⟩
  rcases hr with hr | ⟨b, off, e, hr⟩
  · exact .inl (by rw [hr]; rfl)
  · refine .inr ⟨b, off, e, fun j x hj => ?_⟩
    rw [List.getElem?_map] at hj
    cases hx : l[j]? with
    | none => rw [hx] at hj; cases hj
    | some y =>
      rw [hx] at hj
      simp only [Option.map_some, Option.some.injEq] at hj
      rw [hr j y hx, he y (List.mem_of_getElem? hx), hj]
set_option maxRecDepth 100000 in
theorem open_ints13 {t e : TypeId} {k : IntKind} (ht : Tryd.prog.underlying t = some (.slice e)) (he : Tryd.prog.underlying e = some (.int k)) (hce : Tryd.prog.cellsOf e = 1) {r : Reach} {b0 : Nat} {v : Value} {d : DataW H} {p : List MemPlace} (hv : Value.okWide Tryd.prog w r b0 t v) (h : DataW.Trod enc Tryd.prog w 0 (fun _ => true) held t v d p) :
    ∃ l : List Int, RowA w 1 v l.length (l.map fun a => .int k a) ∧ RwX (fun a => Value.int k a) w v l ∧ (∀ a ∈ l, (Lit.int k a).wf = true) ∧ (l = [] ∨ ∃ el sp, d = .slice el sp ∧ el.length = l.length) := by
  obtain ⟨a0, len, cap, rfl⟩ := okWide_slice ht hv
  obtain ⟨fuel, hf⟩ := h
  rcases Deep.open_slice ht hf with ⟨hcs, hx⟩ | ⟨a, len', cap', m, n, D, Pl, hcs, _, hl, hm, hmm, hx, hel⟩
  · simp [Value.cells] at hcs
    obtain ⟨rfl, rfl, rfl⟩ := hcs
    exact ⟨[], ⟨rfl, none, 0, rfl, Nat.le_refl _, .inl ⟨rfl, rfl, rfl⟩⟩, ⟨none, 0, rfl, Nat.le_refl _, .inl rfl⟩, (fun _ h => by cases h), .inl rfl⟩
  · simp [Value.cells] at hcs
    obtain ⟨rfl, rfl, rfl⟩ := hcs
    simp at hmm
    subst hmm
    rw [hce] at hel
    obtain ⟨f, hf⟩ := Deep.choose_lt (α := Int) (n := len) (p := fun i x => w.cell? (a.add i) = some (.int k x) ∧ (Lit.int k x).wf = true) (fun i hi => by
      obtain ⟨cs', h1, h2⟩ := hel i (by omega)
      obtain ⟨_, hlen, hc⟩ := World.cells?_some h1
      match cs', hlen with
      | [c0], _ =>
        obtain ⟨x, ex, -, wx⟩ := DataW.trod_int he h2
        simp at ex
        subst ex
        refine ⟨x, ?_, wx⟩
        have := hc 0 (by omega)
        simpa [Addr.add] using this)
    have hlen : ((List.range len).map f).length = len := by simp
    have hcells : ∀ j x, ((List.range len).map f)[j]? = some x → w.cell? (a.add j) = some (.int k x) := by
      intro j x hj
      have hlt : j < len := by have := (List.getElem?_eq_some_iff.1 hj).1; simpa using this
      rw [List.getElem?_map, List.getElem?_range hlt] at hj
      simp only [Option.map_some, Option.some.injEq] at hj
      rw [← hj]; exact (hf j hlt).1
    refine ⟨(List.range len).map f, ⟨by simp, some a, m, by rw [hlen], by rw [hlen]; exact hl, .inr ⟨a, rfl, fun j u hj => ?_⟩⟩, ⟨some a, m, by rw [hlen], by rw [hlen]; exact hl, ?_⟩, ?_, ?_⟩
    · rw [List.getElem?_map] at hj
      cases hx : ((List.range len).map f)[j]? with
      | none => rw [hx] at hj; cases hj
      | some y =>
        rw [hx] at hj
        simp only [Option.map_some, Option.some.injEq] at hj
        rw [← hj]; exact hcells j y hx
    · by_cases hz : len = 0
      · subst hz
        exact .inl (by simp)
      · have h00 := (hf 0 (by omega)).1
        have ea : a = ⟨a.block, a.off, none⟩ := by
          have : a.add 0 = a := by simp [Addr.add]
          rw [this] at h00
          exact spot9 h00
        refine .inr ⟨a.block, a.off, by rw [← ea], fun j u hj => ?_⟩
        have := hcells j u hj
        rw [ea, addA] at this
        exact this
    · intro x hx
      simp only [List.mem_map, List.mem_range] at hx
      obtain ⟨i, hi, rfl⟩ := hx
      exact (hf i hi).2
    · simp only [Prod.mk.injEq] at hx
      exact .inr ⟨_, _, hx.1, by simp⟩
end
end Go.Proofs.YthhdaadbcogfnaaDoor
/-
  The law WireSums.
-/
namespace Go.Proofs.YthhdaadbcogfnaaDoor
open Go.RowKit
set_option linter.unusedSimpArgs false
set_option linter.unusedVariables false

theorem Tryd.infoR13 : (Tryd.prog.info? 24).map (fun i => (i.zero, i.size, i.bytes)) = some (some (.slice none 0 0), 1, 24) := by kernel_rfl
/-- The lent rows' plain lists are those handed in. -/
theorem flat_take {α β : Type} (P : List (α × List β)) (k : Nat) (q : α × List β) (h : P[k]? = some q) : ((P.take (k + 1)).map (·.2)).flatten = ((P.take k).map (·.2)).flatten ++ q.2 := by
  rw [List.take_add_one, h]
  simp
theorem own_wideS {W : World} {base base' e size n : Nat} {v : Value} {xs : List Value} (h : W.ownsRow base e size v n xs) (hb : base' ≤ base) : W.ownsRow base' e size v n xs := by
  refine ⟨h.1, ?_⟩
  rcases h.2 with h1 | ⟨g, cap, cur, h1, h2, h3⟩
  · exact .inl h1
  · exact .inr ⟨g, cap, cur, h1, Nat.le_trans hb h2, h3⟩
theorem lent_row {W : World} {base g : Nat} {l : List Nat} (h : W.ownsRow base 5 1 (.slice (some ⟨g, 0, none⟩) (l.length + 9) (l.length + 9)) (l.length + 9) ((mkZ l 9).map cB)) : RwX cB W (.slice (some ⟨g, 0, none⟩) (l.length + 9) (l.length + 9)) (mkZ l 9) ∧ RwX cB W (.slice (some ⟨g, 0, none⟩) l.length (l.length + 9)) l := by
  have e : (mkZ l 9).length = l.length + 9 := mkZ_len l 9 (by decide)
  have h1 : RwX cB W (.slice (some ⟨g, 0, none⟩) (l.length + 9) (l.length + 9)) (mkZ l 9) := own_rwx (by rw [e]; exact h)
  refine ⟨h1, some ⟨g, 0, none⟩, l.length + 9, rfl, by omega, .inr ⟨g, 0, rfl, fun j x hj => ?_⟩⟩
  obtain ⟨ao, c, e2, -, h2⟩ := h1
  injection e2 with e3 e4 e5
  rcases h2 with h2 | ⟨b, off, e6, h2⟩
  · rw [h2] at e; simp at e
  · rw [e6] at e3
    injection e3 with e3
    injection e3 with e7 e8
    subst e7 e8
    refine h2 j x ?_
    unfold mkZ
    rw [List.getElem?_append_left (List.getElem?_eq_some_iff.1 hj).1]
    exact hj
set_option maxRecDepth 20000 in
set_option maxHeartbeats 16000000 in
theorem wireSums_any (v : Value) (P : List (Value × List Nat)) (w : World) (hv : RwX (fun p : Value × List Nat => p.1) w v P) (hP : ∀ p ∈ P, RowA w 1 p.1 p.2.length (p.2.map cB) ∧ RwX cB w p.1 p.2 ∧ p.2.length ≤ 140737488000000 ∧ ∀ b ∈ p.2, b < 256) (hl : P.length ≤ 5864062014000) (hT : Hf w) :
    Calls Tryd.prog 3 #[v] w fun e w' => e = .returned (.bool true) ∧ Below w.heap.size w w' := by
  obtain ⟨i0, hi, hz0, hz1, hz2⟩ := info13 Tryd.infoB13
  obtain ⟨i1, hj, hy0, hy1, hy2⟩ := info13 Tryd.infoR13
  have K0 := known13 w hT
  obtain ⟨ao, c, rfl, hcp, hv⟩ := hv
  have HV := hid13 hv
  have HP := hid13 hP
  have HL := hid13 hl
  have HT := hid13 hT
  clear hv hP hl hT hcp
  go_enter Tryd.func3, Tryd.ntmps3
  go_wp2_with fail
  refine K0.mono ?_
  rintro e w0 ⟨rfl, hb0⟩
  have HS0 : Hid (SM w w0 (.slice none 0 0) (.slice none 0 0) [] []) := hid13 ⟨hb0, World.ownsRow_nil _ _ _ _, World.ownsRow_nil _ _ _ _, fun q hq => (by cases hq), fun q hq => (by cases hq)⟩
  clear K0 hb0
  go_wp2_with fail
  go_loopg [3, 4, 5] P.length (fun g x3 x4 x5 wr => ∃ (k : Nat) (G : List (Nat × List Nat)) (xo mo : Option Addr) (xc mc : Nat), k + g = P.length ∧ x5 = .int .i64 (k : Int) ∧ x3 = .slice xo ((P.take k).map (·.2)).flatten.length xc ∧ x4 = .slice mo G.length mc ∧ Hid (SM w wr (.slice xo ((P.take k).map (·.2)).flatten.length xc) (.slice mo G.length mc) ((P.take k).map (·.2)).flatten G ∧ G.map (·.2) = (P.take k).map (·.2) ∧ ((P.take k).map (·.2)).flatten.length ≤ 65536))
  case atStart => exact ⟨0, [], none, none, 0, 0, by omega, rfl, rfl, rfl, hid13 ⟨HS0.out, rfl, by simp⟩⟩
  case round =>
    clear HS0
    obtain ⟨k, G, xo, mo, xc, mc, hk, rfl, rfl, rfl, HS⟩ := hrel
    by_cases hlt : k < P.length
    · have hli : (k : Int) < (P.length : Int) := by omega
      obtain ⟨b, off, hao, hcell⟩ : ∃ b off, ao = some ⟨b, off, none⟩ ∧ ∀ j x, P[j]? = some x → w.cell? ⟨b, off + j, none⟩ = some x.1 := by
        rcases HV.out with h | h
        · rw [h] at hlt; simp at hlt
        · exact h
      subst hao
      obtain ⟨q, hq⟩ : ∃ q, P[k]? = some q := ⟨P[k], by simp [hlt]⟩
      have HQ := hid13 (HP.out q (List.mem_of_getElem? hq))
      have hGl : G.length = k := by
        have := congrArg List.length HS.out.2.1
        simp at this
        omega
      have HF := hid13 (flat_take P k q hq)
      have HQ9 := hid13 hq
      obtain ⟨qv, ql⟩ := q
      have hrd : wr.cell? ⟨b, off + k, none⟩ = some qv := keepc HS.out.1.b (hcell k _ hq)
      have HCx := hid13 (fun W (hb : Below w.heap.size w W) => (keepc hb (hcell k _ hq) : W.cell? ⟨b, off + k, none⟩ = some qv))
      obtain ⟨qo, qc, hqf, -⟩ := id HQ.out.2.1
      simp only at hqf
      subst hqf
      have HAl := hid13 HS.out.2.2
      have HGm := hid13 HS.out.2.1
      have HK : Hid (k + gk = P.length ∧ k < P.length ∧ G.length = k) := ⟨hk, hlt, hGl⟩
      have mk : IntKind.i64.wrap ((k : Int) + 1) = (k : Int) + 1 := by rw [IntKind.wrap_i64]; have := HL.out; omega
      simp only at HQ HF
      have HS1 := hid13 HS.out.1
      have HA1 := hid13 (HQ.out.1.below HS.out.1.b)
      have hB9 := hid13 (HS.out.1.b.size)
      clear hk hlt hGl hcell hq HS
      generalize ((P.take k).map (·.2)).flatten = A at *
      go_wp2_with (at_builtin; apply stopHere9)
      refine (show wpList _ _ _ _ _ _ from ?_)
      refine wpList_append_rowH rfl _ _ 24 rfl w.heap.size 5 i0 (.int .u8 0) 1 1 Tryd.underlying24 hi hz0 hz1 hz2 rfl (by decide) _ _ _ rfl HS1.out.a (.slice qo ql.length qc) ql.length (ql.map cB) rfl HA1.out (cB_one ql) (by unfold maxLen; have := HQ.out.2.2.1; have := HAl.out; omega) (by have := HQ.out.2.2.1; have := HAl.out; omega) hB9.out ?_
      intro ao3 cap3 w3 hown3 hgrow hat
      have HS3 := hid13 (HS1.out.appA (X := ql) hgrow (by rw [List.map_append, List.length_append]; exact hown3) hat)
      have r3 := HCx.out w3 HS3.out.b
      have KL := lend13 (.slice qo ql.length qc) ql w3 (HQ.out.1.below HS3.out.b) (by have := HQ.out.2.2.1; omega)
      clear hown3 hgrow hat HS1 HA1 hB9 hrd
      go_wp2_with fail
      refine KL.mono ?_
      rintro e w4 ⟨rfl, ho4, hb4⟩
      have q5 := bl1 w4 (.cells #[.slice (some ⟨w3.heap.size, 0, none⟩) ql.length (ql.length + 9)] 24)
      have HS5 := hid13 ((HS3.out.below hb4).below q5)
      have HO5 := hid13 (own_b13 q5 (own_wideS (base' := w.heap.size) ho4 HS3.out.b.size))
      have HN5 : Hid ((.slice ao3 (A.length + ql.length) cap3 : Value).ownBlock ≠ some w3.heap.size) := hid13 (fun e => by have := (HS3.out.a.lt _ e).2; omega)
      clear KL ho4 hb4 r3 HS3
      go_wp2_with (at_builtin; apply stopHere9)
      refine (show wpList _ _ _ _ _ _ from ?_)
      refine wpList_append_lies _ rfl _ _ 22 rfl w.heap.size 24 i1 (.slice none 0 0) 1 24 Tryd.underlying22 hj hy0 hy1 hy2 rfl (by decide) _ _ _ rfl HS5.out.m ⟨w4.heap.size, 0, none⟩ 1 1 [.slice (some ⟨w3.heap.size, 0, none⟩) ql.length (ql.length + 9)] rfl rfl (news13 (by simp [go_sem])) (by intro u hu; simp at hu; subst hu; rfl) (by decide) (by unfold maxLen; have := HK.out; have := HL.out; omega) (by have := HK.out; have := HL.out; omega) HS5.out.b.size _ rfl ?_
      intro g6 cap6 w6 hown6 hgrow6 hat6 hlt6
      have HS6 := hid13 (HS5.out.appM (g := w3.heap.size) (l := ql) HO5.out HN5.out hgrow6 (by rw [List.length_append, List.map_append]; exact hown6))
      clear hown6 hgrow6 hat6 hlt6 HS5 HO5 HN5 q5
      by_cases hgt : 65536 < A.length + ql.length
      · have hgi : (65536 : Int) < ((A.length + ql.length : Nat) : Int) := by omega
        clear hgt
        go_wp2
        go_ret
        exact ⟨rfl, HS6.out.b⟩
      · have hgi : ¬ (65536 : Int) < ((A.length + ql.length : Nat) : Int) := by omega
        have HGt := hid13 hgt
        clear hgt
        go_wp2
        go_roundg (gk - 1)
        case measure => have := HK.out; omega
        case rel => exact ⟨k + 1, G ++ [(w3.heap.size, ql)], _, _, _, _, by have := HK.out; omega, rfl, by rw [HF.out, List.length_append], by rw [List.length_append]; rfl, hid13 ⟨by rw [HF.out, List.length_append]; simpa using HS6.out, by rw [List.map_append, HGm.out, List.take_add_one, HQ9.out]; simp, by rw [HF.out, List.length_append]; have := HGt.out; omega⟩⟩
    · have hli : ¬ (k : Int) < (P.length : Int) := by omega
      have hke : k = P.length := by omega
      subst hke
      rw [List.take_length] at HS
      rw [List.take_length]
      have HGm := hid13 HS.out.2.1
      have HS1 := hid13 HS.out.1
      have hGl : G.length = P.length := by
        have := congrArg List.length HS.out.2.1
        simpa using this
      have HA5 := hid13 HS.out.2.2
      have HGp : Hid (∀ q ∈ G, q.2.length ≤ 140737488000000 ∧ ∀ b ∈ q.2, b < 256) := hid13 (fun q hq => by
        have h1 : q.2 ∈ G.map (·.2) := List.mem_map.2 ⟨q, hq, rfl⟩
        rw [HGm.out] at h1
        obtain ⟨p, hp, e⟩ := List.mem_map.1 h1
        rw [← e]
        exact ⟨(HP.out p hp).2.2.1, (HP.out p hp).2.2.2⟩)
      have KS := sum_any (.slice mo G.length mc) (G.map fun q => (cG q, q.2)) wr ((own_rwx (l := G) (f := cG) HS1.out.m).map13 (fun q => (cG q, q.2)) (fun x _ => rfl)) (fun p hp => by
        obtain ⟨q, hq, rfl⟩ := List.mem_map.1 hp
        exact ⟨(lent_row (HS1.out.l q hq)).2, by have := (HGp.out q hq).1; simp only; omega, (HGp.out q hq).2⟩) (by rw [List.length_map]; have := HL.out; omega) (HT.out.below HS1.out.b)
      have hfl : ((G.map fun q => (cG q, q.2)).map (·.2)).flatten = (P.map (·.2)).flatten := by rw [← HGm.out, List.map_map]; rfl
      rw [hfl] at KS
      have HAb : Hid (∀ b ∈ (P.map (·.2)).flatten, b < 256) := hid13 (fun b hb => by
        obtain ⟨l, hl, hb⟩ := List.mem_flatten.1 hb
        obtain ⟨p, hp, rfl⟩ := List.mem_map.1 hl
        exact (HP.out p hp).2.2.2 b hb)
      have HGl := hid13 hGl
      clear HS hfl hk hlt hGl hli
      generalize (P.map (·.2)).flatten = A at *
      go_wp2_with fail
      refine KS.mono ?_
      rintro e w1 ⟨rfl, hw1⟩
      replace hw1 := hw1.symm
      subst hw1
      clear KS
      go_wp2_with fail
      go_loopg [7] P.length (fun g x7 wz => ∃ k : Nat, k + g = P.length ∧ x7 = .int .i64 (k : Int) ∧ Hid (SM w wz (.slice xo A.length xc) (.slice mo G.length mc) A G))
      case atStart => exact ⟨0, by omega, rfl, HS1⟩
      case round =>
        clear HS1
        obtain ⟨k, hk, rfl, HS⟩ := hrel
        by_cases hlt : k < P.length
        · have hli2 : (k : Int) < (P.length : Int) := by omega
          obtain ⟨b, off, hao, hcell⟩ : ∃ b off, ao = some ⟨b, off, none⟩ ∧ ∀ j x, P[j]? = some x → w.cell? ⟨b, off + j, none⟩ = some x.1 := by
            rcases HV.out with h | h
            · rw [h] at hlt; simp at hlt
            · exact h
          subst hao
          obtain ⟨q, hq⟩ : ∃ q, P[k]? = some q := ⟨P[k], by simp [hlt]⟩
          have HQ := hid13 (HP.out q (List.mem_of_getElem? hq))
          obtain ⟨qv, ql⟩ := q
          have HCq := hid13 (fun W (hs : SM w W (.slice xo A.length xc) (.slice mo G.length mc) A G) => (keepc hs.b (hcell k _ hq) : W.cell? ⟨b, off + k, none⟩ = some qv))
          obtain ⟨g, hg⟩ : ∃ g, G[k]? = some (g, ql) := by
            have e : (G.map (·.2))[k]? = some ql := by rw [HGm.out, List.getElem?_map, hq]; rfl
            rw [List.getElem?_map] at e
            cases h : G[k]? with
            | none => rw [h] at e; cases e
            | some y =>
              rw [h] at e
              simp only [Option.map_some, Option.some.injEq] at e
              exact ⟨y.1, by rw [← e]⟩
          obtain ⟨gm, hmo⟩ : ∃ gm, mo = some ⟨gm, 0, none⟩ := by
            rcases HS.out.m.2 with ⟨h, h0⟩ | ⟨gm, cap, cur, h, -⟩
            · have := HGl.out; omega
            · injection h with h
              exact ⟨gm, h⟩
          subst hmo
          have HCm := hid13 (fun W (hs : SM w W (.slice xo A.length xc) (.slice (some ⟨gm, 0, none⟩) G.length mc) A G) => (by
            have := hs.m.cells (g := gm) rfl k (cG (g, ql)) (by rw [List.getElem?_map, hg]; rfl)
            have ea : (⟨gm, 0, none⟩ : Addr).add k = ⟨gm, k, none⟩ := by cases k <;> simp [Addr.add]
            rw [ea] at this
            exact this : W.cell? ⟨gm, k, none⟩ = some (.slice (some ⟨g, 0, none⟩) ql.length (ql.length + 9))))
          have HKk := hid13 (fun W (hs : SM w W (.slice xo A.length xc) (.slice (some ⟨gm, 0, none⟩) G.length mc) A G) => kept13 qv g ql W (HQ.out.2.1.below hs.b) (lent_row (hs.l (g, ql) (List.mem_of_getElem? hg))).1 (by have := HQ.out.2.2.1; simp only at this; omega))
          obtain ⟨qo, qc, hqf, -⟩ := id HQ.out.2.1
          simp only at hqf
          subst hqf
          have HK : Hid (k + gk = P.length ∧ k < P.length) := ⟨hk, hlt⟩
          have hkG : (k : Int) < (G.length : Int) := by have := HGl.out; omega
          have hk0 : (0 : Int) ≤ (k : Int) := by omega
          have mk : IntKind.i64.wrap ((k : Int) + 1) = (k : Int) + 1 := by rw [IntKind.wrap_i64]; have := HL.out; omega
          clear hk hlt hq hg hcell HQ
          go_wp2_with fail
          refine qw_region (C := fun X => SM w X (.slice xo A.length xc) (.slice (some ⟨gm, 0, none⟩) G.length mc) A G) (by kernel_rfl) (by kernel_rfl) (HS.out.below (below_drewN (Below.refl _ _) 1)) ?_
          clear HS
          refine qw_run (v := .slice (some ⟨gm, 0, none⟩) G.length mc) (by rfl) ?_ ?_
          · (intro w1 hC; have c1 := HCm.out w1 hC; have c2 := HCq.out w1 hC; clear hC; go_simp; first | done | (simp; done) | (simp [*]; done) | omega | (simp; omega) | (rw [IntKind.wrap_i64]; omega) | (intro hx; omega) | rfl)
          simp only [Act.put, List.setIfInBounds_toArray, List.set_cons_zero, List.set_cons_succ]
          refine qw_run (v := .int .i64 (k : Int)) (by rfl) ?_ ?_
          · (intro w1 hC; have c1 := HCm.out w1 hC; have c2 := HCq.out w1 hC; clear hC; go_simp; first | done | (simp; done) | (simp [*]; done) | omega | (simp; omega) | (rw [IntKind.wrap_i64]; omega) | (intro hx; omega) | rfl)
          simp only [Act.put, List.setIfInBounds_toArray, List.set_cons_zero, List.set_cons_succ]
          refine qw_run (v := .pointer (some ⟨gm, k, none⟩)) (by rfl) ?_ ?_
          · (intro w1 hC; have c1 := HCm.out w1 hC; have c2 := HCq.out w1 hC; clear hC; go_simp; first | done | (simp; done) | (simp [*]; done) | omega | (simp; omega) | (rw [IntKind.wrap_i64]; omega) | (intro hx; omega) | rfl)
          simp only [Act.put, List.setIfInBounds_toArray, List.set_cons_zero, List.set_cons_succ]
          refine qw_run (v := .slice (some ⟨g, 0, none⟩) ql.length (ql.length + 9)) (by rfl) ?_ ?_
          · (intro w1 hC; have c1 := HCm.out w1 hC; have c2 := HCq.out w1 hC; clear hC; go_simp; first | done | (simp; done) | (simp [*]; done) | omega | (simp; omega) | (rw [IntKind.wrap_i64]; omega) | (intro hx; omega) | rfl)
          simp only [Act.put, List.setIfInBounds_toArray, List.set_cons_zero, List.set_cons_succ]
          refine qw_run (v := .slice (some ⟨b, off, none⟩) P.length c) (by rfl) ?_ ?_
          · (intro w1 hC; have c1 := HCm.out w1 hC; have c2 := HCq.out w1 hC; clear hC; go_simp; first | done | (simp; done) | (simp [*]; done) | omega | (simp; omega) | (rw [IntKind.wrap_i64]; omega) | (intro hx; omega) | rfl)
          simp only [Act.put, List.setIfInBounds_toArray, List.set_cons_zero, List.set_cons_succ]
          refine qw_run (v := .int .i64 (k : Int)) (by rfl) ?_ ?_
          · (intro w1 hC; have c1 := HCm.out w1 hC; have c2 := HCq.out w1 hC; clear hC; go_simp; first | done | (simp; done) | (simp [*]; done) | omega | (simp; omega) | (rw [IntKind.wrap_i64]; omega) | (intro hx; omega) | rfl)
          simp only [Act.put, List.setIfInBounds_toArray, List.set_cons_zero, List.set_cons_succ]
          refine qw_run (v := .pointer (some ⟨b, off + k, none⟩)) (by rfl) ?_ ?_
          · (intro w1 hC; have c1 := HCm.out w1 hC; have c2 := HCq.out w1 hC; clear hC; go_simp; first | done | (simp; done) | (simp [*]; done) | omega | (simp; omega) | (rw [IntKind.wrap_i64]; omega) | (intro hx; omega) | rfl)
          simp only [Act.put, List.setIfInBounds_toArray, List.set_cons_zero, List.set_cons_succ]
          refine qw_run (v := .slice qo ql.length qc) (by rfl) ?_ ?_
          · (intro w1 hC; have c1 := HCm.out w1 hC; have c2 := HCq.out w1 hC; clear hC; go_simp; first | done | (simp; done) | (simp [*]; done) | omega | (simp; omega) | (rw [IntKind.wrap_i64]; omega) | (intro hx; omega) | rfl)
          simp only [Act.put, List.setIfInBounds_toArray, List.set_cons_zero, List.set_cons_succ]
          refine qw_call (v := .bool true) (f := 8) (args := #[.slice (some ⟨g, 0, none⟩) ql.length (ql.length + 9), .slice qo ql.length qc]) (by rfl) ?_ ?_ ?_
          · (intro w1 hC; clear hC; go_simp)
          · exact fun w1 hC => (HKk.out w1 hC).mono fun e w' ⟨he, hb⟩ => ⟨he, hC.below hb⟩
          simp only [Act.put, List.setIfInBounds_toArray, List.set_cons_zero, List.set_cons_succ]
          refine qw_run (v := .bool false) (by rfl) ?_ ?_
          · (intro w1 hC; have c1 := HCm.out w1 hC; have c2 := HCq.out w1 hC; clear hC; go_simp; first | done | (simp; done) | (simp [*]; done) | omega | (simp; omega) | (rw [IntKind.wrap_i64]; omega) | (intro hx; omega) | rfl)
          simp only [Act.put, List.setIfInBounds_toArray, List.set_cons_zero, List.set_cons_succ]
          refine qw_nil ?_
          intro w9 hC
          have HS9 := hid13 hC
          clear hC HCm HCq HKk
          go_wp2
          go_roundg (gk - 1)
          case measure => have := HK.out; omega
          case rel => exact ⟨k + 1, by have := HK.out; omega, rfl, HS9⟩
        · have hli2 : ¬ (k : Int) < (P.length : Int) := by omega
          have KR := rsum13 (.slice xo A.length xc) A wr (own_rwx HS.out.a) (by have := HA5.out; omega) HAb.out
          clear hk hlt
          go_wp2_with fail
          refine KR.mono ?_
          rintro e w2 ⟨rfl, hw2⟩
          replace hw2 := hw2.symm
          subst hw2
          clear KR
          go_wp2
          go_ret
          exact ⟨rfl, HS.out.b⟩
end Go.Proofs.YthhdaadbcogfnaaDoor
/-
  How rows of rows of numbers that are handed in read as data.
-/
namespace Go.Proofs.YthhdaadbcogfnaaDoor
open Go.ChangeShapes Go.WideShapes Go.ChangeAt Go.RowKit Go.Joins
set_option linter.unusedSimpArgs false
set_option linter.unusedVariables false

section
variable {H : Type} {enc : TypeId × Value → H} {w : World} {spare : Nat → Bool} {held : Bool}
set_option maxRecDepth 100000 in
theorem open_in13 {t e : TypeId} {k : IntKind} (ht : Tryd.prog.underlying t = some (.slice e)) (he : Tryd.prog.underlying e = some (.int k)) (hce : Tryd.prog.cellsOf e = 1) {fuel : Nat} {v : Value} {x : DataW H × List MemPlace} (h : DataW.trod enc Tryd.prog w 0 (fun _ => true) held fuel t [v] = some x) :
    ∃ l : List Int, RowA w 1 v l.length (l.map fun a => .int k a) ∧ RwX (fun a => Value.int k a) w v l ∧ (∀ a ∈ l, (Lit.int k a).wf = true) ∧ (l = [] ∨ ∃ el sp, x.1 = .slice el sp ∧ el.length = l.length) := by
  rcases Deep.open_slice1 ht hce h with ⟨hcs, hx⟩ | ⟨a, len, cap, m, n, V, D, Pl, hcs, _, hl, hm, hmm, hx, hel⟩
  · injection hcs with hcs
    subst hcs
    exact ⟨[], ⟨rfl, none, 0, rfl, Nat.le_refl _, .inl ⟨rfl, rfl, rfl⟩⟩, ⟨none, 0, rfl, Nat.le_refl _, .inl rfl⟩, (fun _ h => by cases h), .inl rfl⟩
  · injection hcs with hcs
    subst hcs
    simp at hmm
    subst hmm
    obtain ⟨f, hf⟩ := Deep.choose_lt (α := Int) (n := len) (p := fun i x => w.cell? (a.add i) = some (.int k x) ∧ (Lit.int k x).wf = true) (fun i hi => by
      obtain ⟨h1, h2⟩ := hel i (by omega)
      obtain ⟨x, ex, -, wx⟩ := DataW.trod_int he h2
      simp at ex
      rw [ex] at h1
      exact ⟨x, h1, wx⟩)
    have hlen : ((List.range len).map f).length = len := by simp
    have hcells : ∀ j x, ((List.range len).map f)[j]? = some x → w.cell? (a.add j) = some (.int k x) := by
      intro j x hj
      have hlt : j < len := by have := (List.getElem?_eq_some_iff.1 hj).1; simpa using this
      rw [List.getElem?_map, List.getElem?_range hlt] at hj
      simp only [Option.map_some, Option.some.injEq] at hj
      rw [← hj]; exact (hf j hlt).1
    refine ⟨(List.range len).map f, ⟨by simp, some a, m, by rw [hlen], by rw [hlen]; exact hl, .inr ⟨a, rfl, fun j u hj => ?_⟩⟩, ⟨some a, m, by rw [hlen], by rw [hlen]; exact hl, ?_⟩, ?_, ?_⟩
    · rw [List.getElem?_map] at hj
      cases hx : ((List.range len).map f)[j]? with
      | none => rw [hx] at hj; cases hj
      | some y =>
        rw [hx] at hj
        simp only [Option.map_some, Option.some.injEq] at hj
        rw [← hj]; exact hcells j y hx
    · by_cases hz : len = 0
      · subst hz
        exact .inl (by simp)
      · have h00 := (hf 0 (by omega)).1
        have ea : a = ⟨a.block, a.off, none⟩ := by
          have : a.add 0 = a := by simp [Addr.add]
          rw [this] at h00
          exact spot9 h00
        refine .inr ⟨a.block, a.off, by rw [← ea], fun j u hj => ?_⟩
        have := hcells j u hj
        rw [ea, addA] at this
        exact this
    · intro x hx
      simp only [List.mem_map, List.mem_range] at hx
      obtain ⟨i, hi, rfl⟩ := hx
      exact (hf i hi).2
    · rw [hx]
      exact .inr ⟨_, _, rfl, by simp⟩
/-- The elements of a slice's data. -/
def elsOf : DataW H → List (DataW H)
  | .slice el _ => el
  | _ => []
set_option maxRecDepth 100000 in
theorem open_rows13 {t e1 e : TypeId} {k : IntKind} (ht : Tryd.prog.underlying t = some (.slice e1)) (h1 : Tryd.prog.underlying e1 = some (.slice e)) (he : Tryd.prog.underlying e = some (.int k)) (hc1 : Tryd.prog.cellsOf e1 = 1) (hce : Tryd.prog.cellsOf e = 1) {r : Reach} {b0 : Nat} {v : Value} {d : DataW H} {p : List MemPlace} (hv : Value.okWide Tryd.prog w r b0 t v) (h : DataW.Trod enc Tryd.prog w 0 (fun _ => true) held t v d p) :
    ∃ P : List (Value × List Int), RwX (fun p : Value × List Int => p.1) w v P ∧ (∀ p ∈ P, RowA w 1 p.1 p.2.length (p.2.map fun a => .int k a) ∧ RwX (fun a => Value.int k a) w p.1 p.2 ∧ (∀ a ∈ p.2, (Lit.int k a).wf = true) ∧ (p.2 = [] ∨ ∃ el sp, (.slice el sp) ∈ elsOf d ∧ el.length = p.2.length)) ∧ (P = [] ∨ ∃ el sp, d = .slice el sp ∧ el.length = P.length) := by
  obtain ⟨a0, len, cap, rfl⟩ := okWide_slice ht hv
  obtain ⟨fuel, hf⟩ := h
  rcases Deep.open_slice1 ht hc1 hf with ⟨hcs, hx⟩ | ⟨a, len', cap', m, n, V, D, Pl, hcs, _, hl, hm, hmm, hx, hel⟩
  · simp [Value.cells] at hcs
    obtain ⟨rfl, rfl, rfl⟩ := hcs
    exact ⟨[], ⟨none, 0, rfl, Nat.le_refl _, .inl rfl⟩, (fun _ h => by cases h), .inl rfl⟩
  · simp [Value.cells] at hcs
    obtain ⟨rfl, rfl, rfl⟩ := hcs
    simp at hmm
    subst hmm
    simp only [Prod.mk.injEq] at hx
    obtain ⟨hx1, -⟩ := hx
    obtain ⟨f, hf⟩ := Deep.choose_lt (α := Value × List Int) (n := len) (p := fun i x => w.cell? (a.add i) = some x.1 ∧ RowA w 1 x.1 x.2.length (x.2.map fun a => .int k a) ∧ RwX (fun a => Value.int k a) w x.1 x.2 ∧ (∀ a ∈ x.2, (Lit.int k a).wf = true) ∧ (x.2 = [] ∨ ∃ el sp, (.slice el sp) ∈ elsOf d ∧ el.length = x.2.length)) (fun i hi => by
      obtain ⟨g1, g2⟩ := hel i (by omega)
      obtain ⟨l, l1, l2, l3, l4⟩ := open_in13 h1 he hce g2
      refine ⟨(V i, l), g1, l1, l2, l3, ?_⟩
      rcases l4 with l4 | ⟨el, sp, l4, l5⟩
      · exact .inl l4
      · refine .inr ⟨el, sp, ?_, l5⟩
        rw [hx1]
        show _ ∈ (List.range len).map D
        exact List.mem_map.2 ⟨i, List.mem_range.2 hi, l4⟩)
    have hlen : ((List.range len).map f).length = len := by simp
    have hcells : ∀ j x, ((List.range len).map f)[j]? = some x → w.cell? (a.add j) = some x.1 := by
      intro j x hj
      have hlt : j < len := by have := (List.getElem?_eq_some_iff.1 hj).1; simpa using this
      rw [List.getElem?_map, List.getElem?_range hlt] at hj
      simp only [Option.map_some, Option.some.injEq] at hj
      rw [← hj]; exact (hf j hlt).1
    refine ⟨(List.range len).map f, ⟨some a, m, by rw [hlen], by rw [hlen]; exact hl, ?_⟩, ?_, ?_⟩
    · by_cases hz : len = 0
      · subst hz
        exact .inl (by simp)
      · have h00 := (hf 0 (by omega)).1
        have ea : a = ⟨a.block, a.off, none⟩ := by
          have : a.add 0 = a := by simp [Addr.add]
          rw [this] at h00
          exact spot9 h00
        refine .inr ⟨a.block, a.off, by rw [← ea], fun j u hj => ?_⟩
        have := hcells j u hj
        rw [ea, addA] at this
        exact this
    · intro x hx
      simp only [List.mem_map, List.mem_range] at hx
      obtain ⟨i, hi, rfl⟩ := hx
      exact (hf i hi).2
    · exact .inr ⟨_, _, hx1, by simp⟩
theorem weightsAll_mem {P : Program} {e : TypeId} {n : Nat} {d : DataW H} : ∀ {el : List (DataW H)}, d ∈ el → n ∈ d.weights P e → n ∈ DataW.weightsAll P e el
  | x :: el, hd, hn => by
    rcases List.mem_cons.1 hd with rfl | hd
    · simp [DataW.weightsAll, hn]
    · simp [DataW.weightsAll, weightsAll_mem hd hn]
theorem sized_inner {P : Program} {ts : List TypeId} {ds : List (DataW H)} (h : (DataW.weightsEach P ts ds).all (· ≤ reachBytes) = true) {j : Nat} {t e1 e : TypeId} {el sp el' sp' : List (DataW H)} (ht : ts[j]? = some t) (hd : ds[j]? = some (.slice el sp)) (hu : P.underlying t = some (.slice e1)) (hm : DataW.slice el' sp' ∈ el) (hu1 : P.underlying e1 = some (.slice e)) :
    (el'.length + sp'.length) * P.bytesOf e ≤ reachBytes := by
  have hn : (el'.length + sp'.length) * P.bytesOf e ∈ DataW.weightsAll P e1 el := weightsAll_mem hm (by simp [DataW.weights, hu1])
  have := List.all_eq_true.1 h _ (DataW.weights_mem_each ht hd ((el'.length + sp'.length) * P.bytesOf e) (by simp only [DataW.weights, hu]; exact List.mem_cons_of_mem _ (List.mem_append_left _ hn)))
  simpa using this
end
end Go.Proofs.YthhdaadbcogfnaaDoor
