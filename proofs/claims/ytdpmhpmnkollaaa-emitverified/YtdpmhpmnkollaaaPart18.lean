/-
  Part 18 of the proof: 6 texts, one behind the other.
-/
import Derived.Test.YtdpmhpmnkollaaaPart17
import Derived.Test.YtdpmhpmnkollaaaPart2
import Derived.Test.YtdpmhpmnkollaaaPart9
import Derived.Test.YtdpmhpmnkollaaaPart1
import Derived.ProofKit
import Derived.Deep.Slices
import Derived.Deep.Strs
import Derived.Carry
import Derived.SizedLaws
import Derived.Lib.SmallJoins
import Derived.Deep.RegionHeld3
import Derived.Deep.AppendLies
import Derived.Laws.AppendOwnNone
import Derived.Test.YtdpmhpmnkollaaaPart7
import Derived.Test.YtdpmhpmnkollaaaPart8
import Derived.OwnWalkIn
namespace Go.Proofs.Ytdpmhpmnkollaaa
open Go.RowKit Go.Shelf
set_option linter.unusedSimpArgs false
set_option linter.unusedVariables false
attribute [local go_sem] Oper.semAt_some

def knL : List Nde := [⟨1, [⟨0#128, false, 5⟩, ⟨1#128, false, 0⟩]⟩]
theorem kn_E : codE 32 knL 1000 = 0 := by decide +kernel
theorem kn_B : codB 32 knL 1000 = [1, 0, 0, 1, 2, 0, 0, 1, 192, 0, 0, 0, 4, 0, 0, 5, 4, 0, 0, 0] := by decide +kernel
set_option maxRecDepth 20000 in
set_option maxHeartbeats 8000000 in
theorem known16 (w : World) :
    Calls Try.prog 5 #[] w fun e w' => e = .returned (.bool true) ∧ Below w.heap.size w w' := by
  have hb1 : Below w.heap.size w ((w.alloc (.cells #[.int .u64 0, .int .u64 0, .bool false, .int .i64 5, .int .u64 0, .int .u64 1, .bool false, .int .i64 0] 50)).alloc (.cells #[.int .i64 1, .slice (some ⟨w.heap.size, 0, none⟩) 2 2] 53)) := bl2 w _ _
  have hI1 : hI 1#128 = 0 := by decide +kernel
  have lI1 : lI 1#128 = 1 := by decide +kernel
  have hv : RwD ((w.alloc (.cells #[.int .u64 0, .int .u64 0, .bool false, .int .i64 5, .int .u64 0, .int .u64 1, .bool false, .int .i64 0] 50)).alloc (.cells #[.int .i64 1, .slice (some ⟨w.heap.size, 0, none⟩) 2 2] 53)) (.slice (some ⟨w.heap.size + 1, 0, none⟩) 1 1) knL := by
    refine ⟨_, 1, rfl, Nat.le_refl _, .inr ⟨w.heap.size + 1, 0, rfl, fun j d hj => ?_⟩⟩
    cases j with
    | succ j => simp [knL] at hj
    | zero =>
      simp [knL] at hj
      subst hj
      refine ⟨.slice (some ⟨w.heap.size, 0, none⟩) 2 2, by simp [go_sem], by simp [go_sem], _, 2, rfl, Nat.le_refl _, .inr ⟨w.heap.size, 0, rfl, fun j r hj => ?_⟩⟩
      match j, hj with
      | 0, hj =>
        simp at hj
        subst hj
        unfold RnAt
        rw [hI_zero, lI_zero]
        refine ⟨?_, ?_, ?_, ?_⟩ <;> simp [go_sem]
      | 1, hj =>
        simp at hj
        subst hj
        unfold RnAt
        rw [hI1, lI1]
        refine ⟨?_, ?_, ?_, ?_⟩ <;> simp [go_sem]
      | j + 2, hj => simp at hj
  have KC := code_any 32 _ knL 1000 _ hv (by decide) (by decide)
  rw [kn_E, kn_B] at KC
  have HB1 := hid13 hb1
  clear hv hb1 hI1 lI1
  go_enter Try.func5, Try.ntmps5
  go_wp2_with fail
  refine KC.mono ?_
  rintro e w2 ⟨v', rfl, ho, hb⟩
  have HB2 := hid13 (keepb hb HB1.out)
  have hc := conv13 (l := [1, 0, 0, 1, 2, 0, 0, 1, 192, 0, 0, 0, 4, 0, 0, 5, 4, 0, 0, 0]) (own_rwx ho) (by decide)
  have hs : bsA [1, 0, 0, 1, 2, 0, 0, 1, 192, 0, 0, 0, 4, 0, 0, 5, 4, 0, 0, 0] = ⟨#[1, 0, 0, 1, 2, 0, 0, 1, 192, 0, 0, 0, 4, 0, 0, 5, 4, 0, 0, 0]⟩ := rfl
  rw [hs] at hc
  clear KC ho hb HB1
  go_wp2
  exact bodyPost_ret (v := .bool true) (by simp [results, Try.results5, go_sem]) rfl ⟨rfl, HB2.out⟩
end Go.Proofs.Ytdpmhpmnkollaaa
namespace Go.Proofs.Ytdpmhpmnkollaaa
open Go.ChangeShapes Go.WideShapes Go.ChangeAt Go.RowKit Go.Joins
set_option linter.unusedSimpArgs false
set_option linter.unusedVariables false

theorem Try.laidOut16 : laidOutB Try.prog = true := by kernel_rfl
theorem Try.cells16a : Try.prog.cellsOf 3 = 1 := by kernel_rfl
theorem Try.cells16b : Try.prog.cellsOf 4 = 1 := by kernel_rfl
theorem Try.cells16c : Try.prog.cellsOf 46 = 1 := by kernel_rfl
theorem Try.cells16d : Try.prog.cellsOf 48 = 2 := by kernel_rfl
theorem Try.cells16e : Try.prog.cellsOf 50 = 4 := by kernel_rfl
theorem Try.cells16f : Try.prog.cellsOf 51 = 1 := by kernel_rfl
theorem Try.cells16g : Try.prog.cellsOf 53 = 2 := by kernel_rfl
theorem i64_bd16 {a : Int} (h : (Lit.int .i64 a).wf = true) : -9223372036854775808 ≤ a ∧ a ≤ 9223372036854775807 := by
  simp [Lit.wf, IntKind.min, IntKind.max, IntKind.signed, IntKind.bits] at h; omega
theorem u64_bd16 {a : Int} (h : (Lit.int .u64 a).wf = true) : 0 ≤ a ∧ a < 18446744073709551616 := by
  simp [Lit.wf, IntKind.min, IntKind.max, IntKind.signed, IntKind.bits] at h; omega
theorem mk_word16 (a b : Int) (ha : 0 ≤ a ∧ a < 18446744073709551616) (hb : 0 ≤ b ∧ b < 18446744073709551616) : ∃ x : BitVec 128, hI x = a ∧ lI x = b := by
  refine ⟨BitVec.ofNat 128 (a.toNat * 18446744073709551616 + b.toNat), ?_, ?_⟩
  · rw [hIN, BitVec.toNat_ofNat]
    have : (2 : Nat) ^ 128 = 340282366920938463463374607431768211456 := by decide
    omega
  · rw [lIN, BitVec.toNat_ofNat]
    have : (2 : Nat) ^ 128 = 340282366920938463463374607431768211456 := by decide
    omega
section
variable {H : Type} {enc : TypeId × Value → H} {w : World} {spare : Nat → Bool} {held : Bool}
set_option maxRecDepth 100000 in
theorem trod_word16 {n : Nat} {c0 c1 : Value} {x : DataW H × List MemPlace} (h : DataW.trod enc Try.prog w 0 spare held n 48 [c0, c1] = some x) :
    ∃ a b : Int, c0 = .int .u64 a ∧ c1 = .int .u64 b ∧ (Lit.int .u64 a).wf = true ∧ (Lit.int .u64 b).wf = true := by
  obtain ⟨u0, u1, m, hu, _, g0, g1⟩ := trod_struct2 Try.underlying48 h
  have g0' : DataW.trod enc Try.prog w 0 spare held m 46 [c0] = some u0 := by simpa [Value.cells, Try.cells16c] using g0
  have g1' : DataW.trod enc Try.prog w 0 spare held m 46 [c1] = some u1 := by simpa [Value.cells, Try.cells16c] using g1
  obtain ⟨a, ea, rfl, wa⟩ := DataW.trod_int Try.underlying46 g0'
  obtain ⟨b, eb, rfl, wb⟩ := DataW.trod_int Try.underlying46 g1'
  simp at ea eb
  exact ⟨a, b, ea, eb, wa, wb⟩
set_option maxRecDepth 100000 in
theorem trod_run16 {n : Nat} {c0 c1 c2 c3 : Value} {x : DataW H × List MemPlace} (h : DataW.trod enc Try.prog w 0 spare held n 50 [c0, c1, c2, c3] = some x) :
    ∃ r : Rn, c0 = .int .u64 (hI r.f) ∧ c1 = .int .u64 (lI r.f) ∧ c2 = .bool r.k ∧ c3 = .int .i64 r.n ∧ -9223372036854775808 ≤ r.n ∧ r.n ≤ 9223372036854775807 := by
  obtain ⟨y0, y1, y2, m, hx, _, h0, h1, h2⟩ := Deep.trod_struct3 Try.underlying50 h
  have h0' : DataW.trod enc Try.prog w 0 spare held m 48 [c0, c1] = some y0 := by simpa [Value.cells, Try.cells16d, Try.cells16b, Try.cells16a] using h0
  have h1' : DataW.trod enc Try.prog w 0 spare held m 4 [c2] = some y1 := by simpa [Value.cells, Try.cells16d, Try.cells16b, Try.cells16a] using h1
  have h2' : DataW.trod enc Try.prog w 0 spare held m 3 [c3] = some y2 := by simpa [Value.cells, Try.cells16d, Try.cells16b, Try.cells16a] using h2
  obtain ⟨a, b, rfl, rfl, wa, wb⟩ := trod_word16 h0'
  obtain ⟨k, ek, -⟩ := DataW.trod_bool Try.underlying4 h1'
  obtain ⟨z, ez, -, wz⟩ := DataW.trod_int Try.underlying3 h2'
  simp at ek ez
  subst ek ez
  obtain ⟨f, e1, e2⟩ := mk_word16 a b (u64_bd16 wa) (u64_bd16 wb)
  have := i64_bd16 wz
  exact ⟨⟨f, k, z⟩, by rw [e1], by rw [e2], rfl, rfl, this.1, this.2⟩
def rowN (l : List Rn) : List Value := l.flatMap fun r => [.int .u64 (hI r.f), .int .u64 (lI r.f), .bool r.k, .int .i64 r.n]
theorem rowN_len (l : List Rn) : (rowN l).length = l.length * 4 := by
  unfold rowN
  induction l with
  | nil => rfl
  | cons r l ih => rw [List.flatMap_cons, List.length_append, ih]; simp; omega
theorem rowN_at : ∀ (l : List Rn) (j : Nat) (u : Value), (rowN l)[j]? = some u → ∃ r, l[j / 4]? = some r ∧ [Value.int .u64 (hI r.f), .int .u64 (lI r.f), .bool r.k, .int .i64 r.n][j % 4]? = some u
  | [], j, u, h => by simp [rowN] at h
  | r :: l, j, u, h => by
    by_cases hj : j < 4
    · refine ⟨r, by rw [Nat.div_eq_of_lt hj]; rfl, ?_⟩
      rw [Nat.mod_eq_of_lt hj]
      unfold rowN at h
      rw [List.flatMap_cons, List.getElem?_append_left (by simpa using hj)] at h
      exact h
    · obtain ⟨k, rfl⟩ : ∃ k, j = k + 4 := ⟨j - 4, by omega⟩
      unfold rowN at h
      rw [List.flatMap_cons, List.getElem?_append_right (by simp)] at h
      obtain ⟨r', h1, h2⟩ := rowN_at l k u (by simpa [rowN] using h)
      refine ⟨r', by rw [show (k + 4) / 4 = k / 4 + 1 by omega]; simpa using h1, by rw [show (k + 4) % 4 = k % 4 by omega]; exact h2⟩
def rlD (d : DataW H) (n : Nat) : Prop := n = 0 ∨ ∃ el sp, d = .slice el sp ∧ el.length = n
set_option maxRecDepth 100000 in
theorem trod_runs16 {fuel : Nat} {va : Value} {x : DataW H × List MemPlace} (hf : DataW.trod enc Try.prog w 0 (fun _ => true) held fuel 51 [va] = some x) :
    ∃ l : List Rn, RwN w va l ∧ RowA w 4 va l.length (rowN l) ∧ (∀ r ∈ l, -9223372036854775808 ≤ r.n ∧ r.n ≤ 9223372036854775807) ∧ rlD x.1 l.length := by
  rcases Deep.open_slice Try.underlying51 hf with ⟨hcs, hx⟩ | ⟨a, len', cap', m, n, D, Pl, hcs, _, hl, hm, hmm, hx, hel⟩
  · simp at hcs
    subst hcs
    exact ⟨[], ⟨none, 0, rfl, Nat.le_refl _, .inl rfl⟩, ⟨rfl, none, 0, rfl, Nat.le_refl _, .inl ⟨rfl, rfl, rfl⟩⟩, (fun _ h => by cases h), .inl rfl⟩
  · simp at hcs
    subst hcs
    simp at hmm
    subst hmm
    rw [Try.cells16e] at hel
    haveI : Inhabited Rn := ⟨⟨0#128, false, 0⟩⟩
    obtain ⟨f, hf⟩ := Deep.choose_lt (α := Rn) (n := len') (p := fun i r => (w.cell? (a.add (i * 4)) = some (.int .u64 (hI r.f)) ∧ w.cell? (a.add (i * 4 + 1)) = some (.int .u64 (lI r.f)) ∧ w.cell? (a.add (i * 4 + 2)) = some (.bool r.k) ∧ w.cell? (a.add (i * 4 + 3)) = some (.int .i64 r.n)) ∧ -9223372036854775808 ≤ r.n ∧ r.n ≤ 9223372036854775807) (fun i hi => by
      obtain ⟨cs', h1, h2⟩ := hel i (by omega)
      obtain ⟨_, hlen, hc⟩ := World.cells?_some h1
      match cs', hlen with
      | [c0, c1, c2, c3], _ =>
        obtain ⟨r, e0, e1, e2, e3, hb⟩ := trod_run16 h2
        subst e0 e1 e2 e3
        refine ⟨r, ⟨?_, ?_, ?_, ?_⟩, hb⟩
        · have := hc 0 (by simp); simpa [Deep.add_add] using this
        · have := hc 1 (by simp); simpa [Deep.add_add] using this
        · have := hc 2 (by simp); simpa [Deep.add_add] using this
        · have := hc 3 (by simp); simpa [Deep.add_add] using this)
    have hlen : ((List.range len').map f).length = len' := by simp
    have hget : ∀ j r, ((List.range len').map f)[j]? = some r → j < len' ∧ r = f j := by
      intro j r hj
      have hlt : j < len' := by have := (List.getElem?_eq_some_iff.1 hj).1; simpa using this
      rw [List.getElem?_map, List.getElem?_range hlt] at hj
      simp only [Option.map_some, Option.some.injEq] at hj
      exact ⟨hlt, hj.symm⟩
    refine ⟨(List.range len').map f, ⟨some a, m, by rw [hlen], by rw [hlen]; exact hl, ?_⟩, ⟨by rw [rowN_len], some a, m, by rw [hlen], by rw [hlen]; exact hl, .inr ⟨a, rfl, fun j u hj => ?_⟩⟩, ?_, ?_⟩
    · by_cases hz : len' = 0
      · subst hz
        exact .inl (by simp)
      · have h00 := (hf 0 (by omega)).1.1
        have ea : a = ⟨a.block, a.off, none⟩ := by
          have : a.add (0 * 4) = a := by simp [Addr.add]
          rw [this] at h00
          exact spot9 h00
        refine .inr ⟨a.block, a.off, by rw [← ea], fun j r hj => ?_⟩
        obtain ⟨hlt, rfl⟩ := hget j r hj
        obtain ⟨⟨g0, g1, g2, g3⟩, -⟩ := hf j hlt
        rw [ea, addA] at g0 g1 g2 g3
        exact ⟨g0, g1, g2, g3⟩
    · obtain ⟨r, h1, h2⟩ := rowN_at _ j u hj
      obtain ⟨hlt, rfl⟩ := hget _ r h1
      obtain ⟨⟨g0, g1, g2, g3⟩, -⟩ := hf _ hlt
      have hm4 : j % 4 = 0 ∨ j % 4 = 1 ∨ j % 4 = 2 ∨ j % 4 = 3 := by omega
      rcases hm4 with q | q | q | q <;> rw [q] at h2 <;> simp at h2 <;> subst h2
      · rwa [show j / 4 * 4 = j by omega] at g0
      · rwa [show j / 4 * 4 + 1 = j by omega] at g1
      · rwa [show j / 4 * 4 + 2 = j by omega] at g2
      · rwa [show j / 4 * 4 + 3 = j by omega] at g3
    · intro r hr
      obtain ⟨i, hi⟩ := List.getElem?_of_mem hr
      obtain ⟨hlt, rfl⟩ := hget i r hi
      exact (hf i hlt).2
    · rw [hx]
      exact .inr ⟨_, _, rfl, by simp⟩
structure NdIn (w : World) (b : Int) (v : Value) (l : List Rn) : Prop where
  r : RwN w v l
  a : RowA w 4 v l.length (rowN l)
  b : -9223372036854775808 ≤ b ∧ b ≤ 9223372036854775807
  n : ∀ r ∈ l, -9223372036854775808 ≤ r.n ∧ r.n ≤ 9223372036854775807
set_option maxRecDepth 100000 in
theorem trod_node16 {n : Nat} {c0 c1 : Value} {x : DataW H × List MemPlace} (h : DataW.trod enc Try.prog w 0 (fun _ => true) held n 53 [c0, c1] = some x) :
    ∃ (b : Int) (l : List Rn), c0 = .int .i64 b ∧ NdIn w b c1 l ∧ ∃ y0 y1, x.1 = .agg [y0, y1] ∧ rlD y1 l.length := by
  obtain ⟨y0, y1, m, hx, _, h0, h1⟩ := trod_struct2 Try.underlying53 h
  have h0' : DataW.trod enc Try.prog w 0 (fun _ => true) held m 3 [c0] = some y0 := by simpa [Value.cells, Try.cells16a, Try.cells16f] using h0
  have h1' : DataW.trod enc Try.prog w 0 (fun _ => true) held m 51 [c1] = some y1 := by simpa [Value.cells, Try.cells16a, Try.cells16f] using h1
  obtain ⟨z, ez, -, wz⟩ := DataW.trod_int Try.underlying3 h0'
  simp at ez
  subst ez
  obtain ⟨l, k1, k2, k3, k4⟩ := trod_runs16 h1'
  exact ⟨z, l, rfl, ⟨k1, k2, i64_bd16 wz, k3⟩, _, _, by rw [hx], k4⟩
structure NdsIn (w : World) (v : Value) (V : List Value) (L : List Nde) : Prop where
  d : RwD w v L
  l : V.length = L.length
  e : ∀ (j : Nat) (u : Value) (d : Nde), V[j]? = some u → L[j]? = some d → NdIn w d.b u d.r
  c : ∀ ao c, v = .slice ao L.length c → ∀ (j : Nat) (u : Value) (d : Nde), V[j]? = some u → L[j]? = some d → ∃ b off, ao = some ⟨b, off, none⟩ ∧ w.cell? ⟨b, off + j * 2, none⟩ = some (.int .i64 d.b) ∧ w.cell? ⟨b, off + j * 2 + 1, none⟩ = some u
set_option maxRecDepth 100000 in
theorem open_nodes16 {r : Reach} {b0 : Nat} {v : Value} {d : DataW H} {p : List MemPlace} (hv : Value.okWide Try.prog w r b0 22 v) (h : DataW.Trod enc Try.prog w 0 (fun _ => true) held 22 v d p) :
    ∃ (V : List Value) (L : List Nde), NdsIn w v V L ∧ rlD d L.length ∧ (∀ el sp, d = .slice el sp → ∀ (j : Nat) (d' : Nde), L[j]? = some d' → ∃ y0 y1, DataW.agg [y0, y1] ∈ el ∧ rlD y1 d'.r.length) := by
  obtain ⟨a0, len, cap, rfl⟩ := okWide_slice Try.underlying22 hv
  obtain ⟨fuel, hf⟩ := h
  rcases Deep.open_slice Try.underlying22 hf with ⟨hcs, hx⟩ | ⟨a, len', cap', m, n, D, Pl, hcs, _, hl, hm, hmm, hx, hel⟩
  · simp [Value.cells] at hcs
    obtain ⟨rfl, rfl, rfl⟩ := hcs
    exact ⟨[], [], ⟨⟨none, 0, rfl, Nat.le_refl _, .inl rfl⟩, rfl, fun j u d h => (by simp at h), fun ao c _ j u d h => (by simp at h)⟩, .inl rfl, fun el sp _ j d' h => (by simp at h)⟩
  · simp [Value.cells] at hcs
    obtain ⟨rfl, rfl, rfl⟩ := hcs
    simp at hmm
    subst hmm
    rw [Try.cells16g] at hel
    simp only [Prod.mk.injEq] at hx
    obtain ⟨hx1, -⟩ := hx
    haveI : Inhabited (Value × Nde) := ⟨(undef, ⟨0, []⟩)⟩
    obtain ⟨f, hf⟩ := Deep.choose_lt (α := Value × Nde) (n := len) (p := fun i x => (w.cell? (a.add (i * 2)) = some (.int .i64 x.2.b) ∧ w.cell? (a.add (i * 2 + 1)) = some x.1) ∧ NdIn w x.2.b x.1 x.2.r ∧ ∃ y0 y1, D i = .agg [y0, y1] ∧ rlD y1 x.2.r.length) (fun i hi => by
      obtain ⟨cs', h1, h2⟩ := hel i (by omega)
      obtain ⟨_, hlen, hc⟩ := World.cells?_some h1
      match cs', hlen with
      | [c0, c1], _ =>
        obtain ⟨b, l, rfl, hn, hd⟩ := trod_node16 h2
        refine ⟨(c1, ⟨b, l⟩), ⟨?_, ?_⟩, hn, hd⟩
        · have := hc 0 (by simp); simpa [Deep.add_add] using this
        · have := hc 1 (by simp); simpa [Deep.add_add] using this)
    have hget : ∀ {β : Type} (g : Value × Nde → β) (j : Nat) (y : β), ((List.range len).map fun i => g (f i))[j]? = some y → j < len ∧ y = g (f j) := by
      intro β g j y hj
      have hlt : j < len := by have := (List.getElem?_eq_some_iff.1 hj).1; simpa using this
      rw [List.getElem?_map, List.getElem?_range hlt] at hj
      simp only [Option.map_some, Option.some.injEq] at hj
      exact ⟨hlt, hj.symm⟩
    have hspot : 0 < len → a = ⟨a.block, a.off, none⟩ := fun hz => by
      have h00 := (hf 0 hz).1.1
      have : a.add (0 * 2) = a := by simp [Addr.add]
      rw [this] at h00
      exact spot9 h00
    refine ⟨(List.range len).map (fun i => (f i).1), (List.range len).map (fun i => (f i).2), ⟨⟨some a, m, by simp, by simpa using hl, ?_⟩, by simp, ?_, ?_⟩, ?_, ?_⟩
    · by_cases hz : len = 0
      · subst hz
        exact .inl (by simp)
      · have ea := hspot (by omega)
        refine .inr ⟨a.block, a.off, by rw [← ea], fun j d hj => ?_⟩
        obtain ⟨hlt, rfl⟩ := hget (·.2) j d hj
        obtain ⟨⟨g0, g1⟩, g2, -⟩ := hf j hlt
        rw [ea, addA] at g0 g1
        exact ⟨_, g0, g1, g2.r⟩
    · intro j u d hu hd
      obtain ⟨hlt, rfl⟩ := hget (·.1) j u hu
      obtain ⟨-, rfl⟩ := hget (·.2) j d hd
      exact (hf j hlt).2.1
    · intro ao c' hv' j u d hu hd
      obtain ⟨hlt, rfl⟩ := hget (·.1) j u hu
      obtain ⟨-, rfl⟩ := hget (·.2) j d hd
      have ea := hspot (by omega)
      obtain ⟨⟨g0, g1⟩, -⟩ := hf j hlt
      rw [ea, addA] at g0 g1
      injection hv' with e1
      exact ⟨a.block, a.off, by rw [← ea, e1], g0, g1⟩
    · exact .inr ⟨_, _, hx1, by simp⟩
    · intro el sp he j d' hd
      obtain ⟨hlt, rfl⟩ := hget (·.2) j d' hd
      obtain ⟨y0, y1, e1, e2⟩ := (hf j hlt).2.2
      rw [hx1] at he
      injection he with he
      refine ⟨y0, y1, ?_, e2⟩
      rw [← he, ← e1]
      exact List.mem_map.2 ⟨j, List.mem_range.2 hlt, rfl⟩
theorem weightsAll_mem16 {P : Program} {e : TypeId} {n : Nat} {d : DataW H} : ∀ {el : List (DataW H)}, d ∈ el → n ∈ d.weights P e → n ∈ DataW.weightsAll P e el
  | x :: el, hd, hn => by
    rcases List.mem_cons.1 hd with rfl | hd
    · simp [DataW.weightsAll, hn]
    · simp [DataW.weightsAll, weightsAll_mem16 hd hn]
theorem Try.bytes16a : Try.prog.bytesOf 50 = 32 := by kernel_rfl
theorem Try.bytes16b : Try.prog.bytesOf 53 = 32 := by kernel_rfl
theorem nodes_sized16 {ts : List TypeId} {ds : List (DataW H)} (h : (DataW.weightsEach Try.prog ts ds).all (· ≤ reachBytes) = true) {j : Nat} {d : DataW H} {L : List Nde} (ht : ts[j]? = some 22) (hd : ds[j]? = some d) (hl : rlD d L.length) (hel : ∀ el sp, d = .slice el sp → ∀ (j : Nat) (d' : Nde), L[j]? = some d' → ∃ y0 y1, DataW.agg [y0, y1] ∈ el ∧ rlD y1 d'.r.length) :
    L.length ≤ 140737488355328 ∧ ∀ d' ∈ L, d'.r.length ≤ 140737488355328 := by
  have hrb : reachBytes ≤ 140737488355328 := by
    have := reachBytes_lt
    have : (2 : Nat) ^ 47 = 140737488355328 := by decide
    omega
  rcases hl with hl | ⟨el, sp, rfl, hl⟩
  · have : L = [] := List.eq_nil_of_length_eq_zero hl
    subst this
    exact ⟨by simp, fun d' h => by cases h⟩
  · have hw : ∀ n ∈ DataW.weights Try.prog 22 (.slice el sp), n ≤ reachBytes := fun n hn => by
      have := List.all_eq_true.1 h _ (DataW.weights_mem_each ht hd n hn)
      simpa using this
    have hu : DataW.weights Try.prog 22 (.slice el sp) = (el.length + sp.length) * Try.prog.bytesOf 53 :: (DataW.weightsAll Try.prog 53 el ++ DataW.weightsAll Try.prog 53 sp) := by simp [DataW.weights, Try.underlying22]
    rw [hu, Try.bytes16b] at hw
    refine ⟨?_, fun d' hd' => ?_⟩
    · have := hw _ (List.mem_cons_self ..)
      have : el.length * 32 ≤ (el.length + sp.length) * 32 := Nat.mul_le_mul_right _ (by omega)
      omega
    · obtain ⟨i, hi⟩ := List.getElem?_of_mem hd'
      obtain ⟨y0, y1, hm, hr⟩ := hel el sp rfl i d' hi
      rcases hr with hr | ⟨el2, sp2, rfl, hr⟩
      · omega
      · have hn : (el2.length + sp2.length) * Try.prog.bytesOf 50 ∈ DataW.weights Try.prog 53 (.agg [y0, .slice el2 sp2]) := by
          simp [DataW.weights, DataW.weightsEach, Try.underlying53, Try.underlying51]
        have := hw _ (List.mem_cons_of_mem _ (List.mem_append_left _ (weightsAll_mem16 hm hn)))
        rw [Try.bytes16a] at this
        have : el2.length * 32 ≤ (el2.length + sp2.length) * 32 := Nat.mul_le_mul_right _ (by omega)
        omega
end
end Go.Proofs.Ytdpmhpmnkollaaa
namespace Go.Proofs.Ytdpmhpmnkollaaa
open Go.RowKit
set_option linter.unusedSimpArgs false
set_option linter.unusedVariables false
attribute [local go_sem] Oper.semAt_some

def TwIn (w : World) (v : Value) (L : List Nde) : Prop := ∃ ao c, v = .slice ao L.length c ∧ L.length ≤ c ∧ (L = [] ∨ ∃ b off, ao = some ⟨b, off, none⟩ ∧ ∀ j d, L[j]? = some d → ∃ vr, w.cell? ⟨b, off + j * 2, none⟩ = some (.int .i64 d.b) ∧ w.cell? ⟨b, off + j * 2 + 1, none⟩ = some vr ∧ RowA w 4 vr d.r.length (rowN d.r))
theorem TwIn.below {w w' : World} {v : Value} {L : List Nde} (h : TwIn w v L) (hb : Below w.heap.size w w') : TwIn w' v L := by
  obtain ⟨ao, c, e, hc, h⟩ := h
  refine ⟨ao, c, e, hc, h.imp id ?_⟩
  rintro ⟨b, off, e, h⟩
  refine ⟨b, off, e, fun j d hj => ?_⟩
  obtain ⟨vr, h1, h2, h3⟩ := h j d hj
  exact ⟨vr, keepc hb h1, keepc hb h2, h3.below hb⟩
theorem rowN_get : ∀ (l : List Rn) (j : Nat) (r : Rn), l[j]? = some r → (rowN l)[j * 4]? = some (.int .u64 (hI r.f)) ∧ (rowN l)[j * 4 + 1]? = some (.int .u64 (lI r.f)) ∧ (rowN l)[j * 4 + 2]? = some (.bool r.k) ∧ (rowN l)[j * 4 + 3]? = some (.int .i64 r.n)
  | [], j, r, h => by simp at h
  | x :: l, 0, r, h => by
    simp at h
    subst h
    unfold rowN
    rw [List.flatMap_cons]
    exact ⟨rfl, rfl, rfl, rfl⟩
  | x :: l, j + 1, r, h => by
    have ih := rowN_get l j r (by simpa using h)
    have e : ∀ t, (rowN (x :: l))[(j + 1) * 4 + t]? = (rowN l)[j * 4 + t]? := fun t => by
      have : rowN (x :: l) = [Value.int .u64 (hI x.f), .int .u64 (lI x.f), .bool x.k, .int .i64 x.n] ++ rowN l := by unfold rowN; rw [List.flatMap_cons]
      rw [this, List.getElem?_append_right (by simp; omega)]
      congr 1
      simp; omega
    have e0 := e 0
    simp only [Nat.add_zero] at e0
    rw [e0, e, e, e]
    exact ih
theorem own_rwn16 {W : World} {base : Nat} {v : Value} {l : List Rn} (h : W.ownsRow base 50 4 v l.length (rowN l)) : RwN W v l := by
  by_cases hl : l = []
  · subst hl
    obtain ⟨ao, c, hv⟩ := own_form h
    exact ⟨ao, c, hv, Nat.zero_le _, .inl rfl⟩
  · have hp := List.length_pos_iff.mpr hl
    obtain ⟨g, c, hv, hc⟩ : ∃ g c, v = .slice (some ⟨g, 0, none⟩) l.length c ∧ l.length ≤ c := by
      rcases h.2 with ⟨-, h0⟩ | ⟨g, c, cur, e, -, -, h3, -⟩
      · omega
      · exact ⟨g, c, e, h3⟩
    subst hv
    refine ⟨_, c, rfl, hc, .inr ⟨g, 0, rfl, fun j r hj => ?_⟩⟩
    have hjl := (List.getElem?_eq_some_iff.mp hj).1
    obtain ⟨c0, c1, c2, c3⟩ := rowN_get l j r hj
    have q := fun t (ht : t < l.length * 4) => h.cellAt t ht
    rw [Nat.zero_add]
    exact ⟨(q _ (by omega)).trans c0, (q _ (by omega)).trans c1, (q _ (by omega)).trans c2, (q _ (by omega)).trans c3⟩
def rowD : List Nde → List Value → List Value
  | d :: L, v :: V => .int .i64 d.b :: v :: rowD L V
  | _, _ => []
theorem rowD_app : ∀ (L : List Nde) (V : List Value) (d : Nde) (v : Value), L.length = V.length → rowD (L ++ [d]) (V ++ [v]) = rowD L V ++ [.int .i64 d.b, v]
  | [], [], d, v, _ => rfl
  | x :: L, y :: V, d, v, h => by
    show _ :: _ :: rowD (L ++ [d]) (V ++ [v]) = _
    rw [rowD_app L V d v (by simpa using h)]; rfl
  | [], y :: V, d, v, h => by simp at h
  | x :: L, [], d, v, h => by simp at h
theorem rowD_get : ∀ (L : List Nde) (V : List Value) (j : Nat) (d : Nde) (v : Value), L[j]? = some d → V[j]? = some v → (rowD L V)[j * 2]? = some (.int .i64 d.b) ∧ (rowD L V)[j * 2 + 1]? = some v
  | [], V, j, d, v, h, _ => by simp at h
  | x :: L, [], j, d, v, _, h => by simp at h
  | x :: L, y :: V, 0, d, v, h1, h2 => by
    simp at h1 h2
    subst h1 h2
    exact ⟨rfl, rfl⟩
  | x :: L, y :: V, j + 1, d, v, h1, h2 => by
    have ih := rowD_get L V j d v (by simpa using h1) (by simpa using h2)
    have e0 : (j + 1) * 2 = j * 2 + 2 := by omega
    rw [e0]
    exact ih
theorem rwd_of {W : World} {base : Nat} {v : Value} {L : List Nde} {V : List Value} (h : W.ownsRow base 53 2 v L.length (rowD L V)) (hl : V.length = L.length) (hr : ∀ (j : Nat) (d : Nde) (vr : Value), L[j]? = some d → V[j]? = some vr → RwN W vr d.r) : RwD W v L := by
  by_cases hL : L = []
  · subst hL
    obtain ⟨ao, c, hv⟩ := own_form h
    exact ⟨ao, c, hv, Nat.zero_le _, .inl rfl⟩
  · have hp := List.length_pos_iff.mpr hL
    obtain ⟨g, c, hv, hc⟩ : ∃ g c, v = .slice (some ⟨g, 0, none⟩) L.length c ∧ L.length ≤ c := by
      rcases h.2 with ⟨-, h0⟩ | ⟨g, c, cur, e, -, -, h3, -⟩
      · omega
      · exact ⟨g, c, e, h3⟩
    subst hv
    refine ⟨_, c, rfl, hc, .inr ⟨g, 0, rfl, fun j d hj => ?_⟩⟩
    have hjl := (List.getElem?_eq_some_iff.mp hj).1
    have hvj : V[j]? = some V[j] := List.getElem?_eq_getElem (by omega)
    obtain ⟨c0, c1⟩ := rowD_get L V j d _ hj hvj
    rw [Nat.zero_add]
    exact ⟨V[j], (h.cellAt _ (by omega)).trans c0, (h.cellAt _ (by omega)).trans c1, hr j d _ hj hvj⟩
theorem Try.infoRn16 : (Try.prog.info? 50).map (fun i => (i.zero, i.size, i.bytes)) = some (some (.agg #[.int .u64 0, .int .u64 0, .bool false, .int .i64 0]), 4, 32) := by kernel_rfl
theorem Try.infoD16 : (Try.prog.info? 53).map (fun i => (i.zero, i.size, i.bytes)) = some (some (.agg #[.int .i64 0, .slice none 0 0]), 2, 32) := by kernel_rfl
theorem two_one16 (b : Int) (ao : Option Addr) (n c : Nat) : ∀ u ∈ [Value.int .i64 b, .slice ao n c], u.oneCell' = true := by
  intro u hu
  simp at hu
  rcases hu with h | h <;> subst h <;> rfl
end Go.Proofs.Ytdpmhpmnkollaaa
namespace Go.Proofs.Ytdpmhpmnkollaaa
open Go.RowKit Go.Shelf
set_option linter.unusedSimpArgs false
set_option linter.unusedVariables false
attribute [local go_sem] Oper.semAt_some

def runsV (m : List (BitVec 32)) (es : List (Bool × Int)) : List Rn := (setL m 0).zipWith (fun i e => ⟨mkW 0 i, e.1, e.2⟩) es
theorem runsV_len (m : List (BitVec 32)) (es : List (Bool × Int)) (h : es.length = sumW m m.length) : (runsV m es).length = es.length := by
  unfold runsV
  rw [List.length_zipWith, setL_all]; omega
structure NdW (w : World) (A0 N R0 B : Nat) (cs : Array Value) (V : World) (vb : Value) (L : List Rn) : Prop where
  b : Below w.heap.size w V
  a : V.heap[A0]? = some (.cells cs 111)
  r : V.heap[A0 + 1]? = some (.cells #[.int .i64 0, .slice none 0 0] 53)
  c : V.heap[B]? = some (.cells #[vb] 51)
  o : V.ownsRow w.heap.size 50 4 vb L.length (rowN L)
  n : ∀ z, vb.ownBlock = some z → z = R0 ∨ N ≤ z
  s : N ≤ V.heap.size
theorem NdW.below {w V V' : World} {A0 N R0 B : Nat} {cs : Array Value} {vb : Value} {L : List Rn} (h : NdW w A0 N R0 B cs V vb L) (hb : Below V.heap.size V V') : NdW w A0 N R0 B cs V' vb L :=
  ⟨keepb hb h.b, (hb.block _ (lt_16 h.a)).trans h.a, (hb.block _ (lt_16 h.r)).trans h.r, (hb.block _ (lt_16 h.c)).trans h.c, own_b13 hb h.o, h.n, Nat.le_trans h.s hb.size⟩
theorem NdW.kept {w V V' : World} {A0 N R0 B : Nat} {cs : Array Value} {vb : Value} {L : List Rn} (h : NdW w A0 N R0 B cs V vb L) {row : Option Nat} (hg : V.grownBy V' row) (hN : w.heap.size ≤ N) (hr : ∀ r, row = some r → N ≤ r ∧ ∃ o : Obj, V.heap[r]? = some o ∧ o.isCells = false) : NdW w A0 N R0 B cs V' vb L :=
  ⟨h.b.grown hg (Nat.le_trans hN h.s) (fun k e => by have := (hr k e).1; omega), blk_16 hg (fun r e => (hr r e).2) h.a, blk_16 hg (fun r e => (hr r e).2) h.r, blk_16 hg (fun r e => (hr r e).2) h.c, own_16 hg (fun r e => (hr r e).2) h.o, h.n, Nat.le_trans h.s hg.size⟩
theorem newsN18 (W : World) (a b c d : Value) (t : TypeId) : ∀ j u, [a, b, c, d][j]? = some u → (W.alloc (.cells #[a, b, c, d] t)).cell? ((⟨W.heap.size, 0, none⟩ : Addr).add j) = some u := by
  intro j u h
  match j, h with
  | 0, h => simp at h; subst h; simp [go_sem, Addr.add]
  | 1, h => simp at h; subst h; simp [go_sem, Addr.add]
  | 2, h => simp at h; subst h; simp [go_sem, Addr.add]
  | 3, h => simp at h; subst h; simp [go_sem, Addr.add]
  | j + 4, h => simp at h
theorem rowN_app18 (L : List Rn) (r : Rn) : rowN (L ++ [r]) = rowN L ++ [.int .u64 (hI r.f), .int .u64 (lI r.f), .bool r.k, .int .i64 r.n] := by
  unfold rowN
  rw [List.flatMap_append]
  simp
theorem NdW.push {w V V2 W' : World} {b : Nat} {cs : Array Value} {vb : Value} {L : List Rn} {r : Rn} {g cap q : Nat} (h : NdW w b (b + 5) (b + 1 + 1) (b + 1 + 1 + 1) cs V vb L) (hql : L.length = q) (hb0 : b = w.heap.size) (hb : Below V.heap.size V V2)
    (ho : W'.ownsRow w.heap.size 50 4 (.slice (some ⟨g, 0, none⟩) (q + 1) cap) (q + 1) (rowN (L ++ [r]))) (hg : V2.grownBy W' vb.ownBlock) (hat : vb.ownBlock = some g ∨ g = V2.heap.size) :
    NdW w b (b + 5) (b + 1 + 1) (b + 1 + 1 + 1) cs (W'.setCell ⟨b + 1 + 1 + 1, 0, none⟩ (.slice (some ⟨g, 0, none⟩) (q + 1) cap)) (.slice (some ⟨g, 0, none⟩) (q + 1) cap) (L ++ [r]) ∧ KZ (fun z => z < b ∨ z = b + 1 + 1 + 1 + 1) V (W'.setCell ⟨b + 1 + 1 + 1, 0, none⟩ (.slice (some ⟨g, 0, none⟩) (q + 1) cap)) ∧ KeepsFrom (b + 5) V (W'.setCell ⟨b + 1 + 1 + 1, 0, none⟩ (.slice (some ⟨g, 0, none⟩) (q + 1) cap)) := by
  have hs := h.s
  have hbs := hb.size
  have hgs := hg.size
  have hgn : g = b + 1 + 1 ∨ b + 5 ≤ g := by
    rcases hat with q | q
    · exact h.n g q
    · omega
  have kp1 : ∀ z o, V.heap[z]? = some o → vb.ownBlock ≠ some z → W'.heap[z]? = some o := fun z o h1 h2 => by
    have hz := (Array.getElem?_eq_some_iff.1 h1).1
    exact (hg.block z (by omega) (fun q => h2 q.symm)).trans ((hb.block z hz).trans h1)
  have kp : ∀ z o, V.heap[z]? = some o → z ≠ b + 1 + 1 + 1 → vb.ownBlock ≠ some z → (W'.setCell ⟨b + 1 + 1 + 1, 0, none⟩ (.slice (some ⟨g, 0, none⟩) (q + 1) cap)).heap[z]? = some o := fun z o h1 h3 h2 => (far_16 h3).trans (kp1 z o h1 h2)
  have nn : ∀ z, z ≠ b + 1 + 1 → z < b + 5 → vb.ownBlock ≠ some z := fun z h1 h2 q => by
    rcases h.n z q with q | q <;> omega
  refine ⟨⟨?_, kp _ _ h.a (by omega) (nn _ (by omega) (by omega)), kp _ _ h.r (by omega) (nn _ (by omega) (by omega)), ?_, ?_, fun z hz => ?_, by simp; omega⟩, ⟨by simp; omega, fun z o h1 h2 => ?_⟩, ⟨by simp; omega, fun z o h0 h1 h2 => ?_⟩⟩
  · refine Below.setCell (p := ⟨b + 1 + 1 + 1, 0, none⟩) ?_ (by show w.heap.size ≤ b + 1 + 1 + 1; omega) _
    exact (keepb hb h.b).grown hg (by omega) (fun z q => (h.o.lt z q).1)
  · rw [set_16 (kp1 _ _ h.c (nn _ (by omega) (by omega)))]
    rfl
  · rw [List.length_append, List.length_singleton, hql]
    refine own_keep18 ho (fun z hz => far_16 ?_)
    have hz : g = z := by simpa [Value.ownBlock] using hz
    omega
  · have hz : g = z := by simpa [Value.ownBlock] using hz
    omega
  · exact kp z o h1 (by omega) (nn z (by omega) (by rcases h2 with q | q <;> omega) |> fun k => (by
      rcases h2 with q | q
      · exact nn z (by omega) (by omega)
      · exact nn z (by omega) (by omega)))
  · refine kp z o h1 (by omega) (fun q => ?_)
    obtain ⟨cs2, hcs2⟩ := own_typed18 h.o z q
    rw [hcs2] at h1
    cases h1
    cases h2
end Go.Proofs.Ytdpmhpmnkollaaa
namespace Go.Proofs.Ytdpmhpmnkollaaa
open Go.RowKit Go.Shelf
set_option linter.unusedSimpArgs false
set_option linter.unusedVariables false
attribute [local go_sem] Oper.semAt_some

structure NdO (W : World) (base : Nat) (v : Value) (V : List Value) (L : List Nde) : Prop where
  o : W.ownsRow base 53 2 v L.length (rowD L V)
  l : V.length = L.length
  r : ∀ (j : Nat) (d : Nde) (u : Value), L[j]? = some d → V[j]? = some u → W.ownsRow base 50 4 u d.r.length (rowN d.r)
  d : ∀ (j k : Nat) (x y : Value) (z : Nat), V[j]? = some x → V[k]? = some y → x.ownBlock = some z → y.ownBlock = some z → j = k
theorem NdO.below {W W' : World} {base : Nat} {v : Value} {V : List Value} {L : List Nde} (h : NdO W base v V L) (hb : Below W.heap.size W W') : NdO W' base v V L := ⟨own_b13 hb h.o, h.l, fun j d u h1 h2 => own_b13 hb (h.r j d u h1 h2), h.d⟩
theorem NdO.rwd {W : World} {base : Nat} {v : Value} {V : List Value} {L : List Nde} (h : NdO W base v V L) : RwD W v L := rwd_of h.o h.l (fun j d vr h1 h2 => own_rwn16 (h.r j d vr h1 h2))
theorem NdO.nil {W : World} {base : Nat} {v : Value} (h : W.ownsRow base 53 2 v 0 []) : NdO W base v [] [] := ⟨h, rfl, fun j d u h1 h2 => (by simp at h1), fun j k x y z h1 h2 => (by simp at h1)⟩
theorem NdO.push {W W1 W2 W3 W4 : World} {base : Nat} {v v' u : Value} {V : List Value} {L : List Nde} {d : Nde} (h : NdO W base v V L) (hbs : base ≤ W.heap.size) (h1 : Below W.heap.size W W1) (hr : W2.ownsRow W1.heap.size 50 4 u d.r.length (rowN d.r)) (h2 : Below W1.heap.size W1 W2) (h3 : Below W2.heap.size W2 W3) (hg : W3.grownBy W4 v.ownBlock)
    (ho : W4.ownsRow base 53 2 v' (L.length + 1) (rowD L V ++ [.int .i64 d.b, u])) : NdO W4 base v' (V ++ [u]) (L ++ [d]) := by
  have hb3 : Below W.heap.size W W3 := keepb h3 (keepb h2 h1)
  have s1 := h1.size
  have keep : ∀ {b0 n : Nat} {x : Value} {xs : List Value}, W3.ownsRow b0 50 4 x n xs → W4.ownsRow b0 50 4 x n xs := fun hx => own_keep18 hx (fun g hg2 => by
    obtain ⟨cs, hcs⟩ := own_typed18 hx g hg2
    refine hg.block g (lt_16 hcs) (fun q => ?_)
    exact own_not18 (own_b13 hb3 h.o) hcs (by decide) q.symm)
  refine ⟨?_, by rw [List.length_append, List.length_append, h.l]; rfl, fun j e x q1 q2 => ?_, fun j k x y z q1 q2 q3 q4 => ?_⟩
  · rw [rowD_app L V d u h.l.symm, List.length_append, List.length_singleton]
    exact ho
  · by_cases hj : j < L.length
    · rw [List.getElem?_append_left hj] at q1
      rw [List.getElem?_append_left (by rw [h.l]; exact hj)] at q2
      exact keep (own_b13 hb3 (h.r j e x q1 q2))
    · have hj1 := (List.getElem?_eq_some_iff.mp q1).1
      rw [List.length_append, List.length_singleton] at hj1
      have hj2 : j = L.length := by omega
      subst hj2
      rw [List.getElem?_append_right (Nat.le_refl _), Nat.sub_self] at q1
      rw [List.getElem?_append_right (by rw [h.l]; exact Nat.le_refl _), h.l, Nat.sub_self] at q2
      simp at q1 q2
      subst q1 q2
      exact own_base16 (keep (own_b13 h3 hr)) (by omega)
  · have old : ∀ (i : Nat) (x : Value), V[i]? = some x → x.ownBlock = some z → z < W.heap.size := fun i x hi hz => by
      have hil : i < L.length := by rw [← h.l]; exact (List.getElem?_eq_some_iff.mp hi).1
      exact ((h.r i L[i] x (List.getElem?_eq_getElem hil) hi).lt z hz).2
    have new : u.ownBlock = some z → W.heap.size ≤ z := fun hz => by have := (hr.lt z hz).1; omega
    have lst : ∀ (i : Nat) (x : Value), (V ++ [u])[i]? = some x → (i < V.length ∧ V[i]? = some x) ∨ (i = V.length ∧ u = x) := fun i x hi => by
      by_cases hl : i < V.length
      · rw [List.getElem?_append_left hl] at hi
        exact .inl ⟨hl, hi⟩
      · have hi1 := (List.getElem?_eq_some_iff.mp hi).1
        rw [List.length_append, List.length_singleton] at hi1
        have hi2 : i = V.length := by omega
        subst hi2
        rw [List.getElem?_append_right (Nat.le_refl _), Nat.sub_self] at hi
        simp at hi
        exact .inr ⟨rfl, hi⟩
    rcases lst j x q1 with ⟨a1, a2⟩ | ⟨a1, a2⟩ <;> rcases lst k y q2 with ⟨b1, b2⟩ | ⟨b1, b2⟩
    · exact h.d j k x y z a2 b2 q3 q4
    · subst b2
      have := old j x a2 q3
      have := new q4
      omega
    · subst a2
      have := old k y b2 q4
      have := new q3
      omega
    · omega
def ndsL (P : List PB) : List Nde := P.map fun b => ⟨b.t, runsV b.m b.es⟩
theorem ndsL_take (P : List PB) (k : Nat) (b : PB) (h : P[k]? = some b) : (ndsL P).take (k + 1) = (ndsL P).take k ++ [⟨b.t, runsV b.m b.es⟩] := by
  unfold ndsL
  rw [List.take_add_one, List.getElem?_map, h]; rfl
theorem newsD18 (w : World) (x y : Value) (T : TypeId) (B : Nat) (hB : B = w.heap.size) : ∀ j u, [x, y][j]? = some u → (w.alloc (.cells #[x, y] T)).cell? ((⟨B, 0, none⟩ : Addr).add j) = some u := by
  subst hB
  intro j u h
  match j, h with
  | 0, h => simp at h; subst h; simp [go_sem, Addr.add]
  | 1, h => simp at h; subst h; simp [go_sem, Addr.add]
  | j + 2, h => simp at h
end Go.Proofs.Ytdpmhpmnkollaaa
namespace Go.Proofs.Ytdpmhpmnkollaaa
open Go.RowKit Go.Shelf
set_option linter.unusedSimpArgs false
set_option linter.unusedVariables false
attribute [local go_sem] Oper.semAt_some

structure TnV (X0 : World) (bt : Int) (vr : Value) (RS : List Rn) (W : World) : Prop where
  b : Below X0.heap.size X0 W
  n : W.heap[X0.heap.size]? = some (.cells #[.int .i64 bt, vr] 53)
  o : W.ownsRow (X0.heap.size + 1) 50 4 vr RS.length (rowN RS)
theorem TnV.below {X0 W W' : World} {bt : Int} {vr : Value} {RS : List Rn} (h : TnV X0 bt vr RS W) (hb : Below W.heap.size W W') : TnV X0 bt vr RS W' := ⟨keepb hb h.b, (hb.block _ (lt_16 h.n)).trans h.n, own_b13 hb h.o⟩
theorem TnV.far {X0 W : World} {bt : Int} {vr : Value} {RS : List Rn} (h : TnV X0 bt vr RS W) {z o : Nat} (hz : X0.heap.size < z) (hn : vr.ownBlock ≠ some z) (u : Value) : TnV X0 bt vr RS (W.setCell ⟨z, o, none⟩ u) :=
  ⟨h.b.setCell (p := ⟨z, o, none⟩) (by show _ ≤ z; omega) _, (far_16 (by omega)).trans h.n, own_keep18 h.o (fun g hg => far_16 (by rintro rfl; exact hn hg))⟩
theorem TnV.push {X0 W W1 W2 : World} {bt : Int} {vr : Value} {RS : List Rn} {r : Rn} {g cap m : Nat} (h : TnV X0 bt vr RS W) (hm : RS.length = m) (h1 : Below W.heap.size W W1) (ho : W2.ownsRow (X0.heap.size + 1) 50 4 (.slice (some ⟨g, 0, none⟩) (m + 1) cap) (m + 1) (rowN (RS ++ [r]))) (hg : W1.grownBy W2 vr.ownBlock) :
    TnV X0 bt (.slice (some ⟨g, 0, none⟩) (m + 1) cap) (RS ++ [r]) (W2.setCell ⟨X0.heap.size, 1, none⟩ (.slice (some ⟨g, 0, none⟩) (m + 1) cap)) ∧ W2.cell? ⟨X0.heap.size, 1, none⟩ = some vr ∧ W2.frozen? ⟨X0.heap.size, 1, none⟩ = false := by
  have hne : vr.ownBlock ≠ some X0.heap.size := fun q => by have := (h.o.lt _ q).1; omega
  have hn1 := (h1.block _ (lt_16 h.n)).trans h.n
  have hn2 : W2.heap[X0.heap.size]? = some (.cells #[.int .i64 bt, vr] 53) := (hg.block _ (lt_16 hn1) (fun q => hne q.symm)).trans hn1
  refine ⟨⟨?_, by rw [set_16 hn2]; rfl, ?_⟩, at_16 hn2 1 _ rfl, fr_16 hn2⟩
  · have hb := keepb h1 h.b
    exact (hb.grown hg hb.size (fun z q => by have := (h.o.lt z q).1; omega)).setCell (p := ⟨X0.heap.size, 1, none⟩) (Nat.le_refl _) _
  · rw [List.length_append, List.length_singleton, hm]
    exact own_keep18 ho (fun z hz => far_16 (by rintro rfl; have := (ho.lt _ hz).1; omega))
theorem NdO.base {W : World} {b b' : Nat} {v : Value} {V : List Value} {L : List Nde} (h : NdO W b v V L) (hb : b' ≤ b) : NdO W b' v V L := ⟨own_base16 h.o hb, h.l, fun j d u h1 h2 => own_base16 (h.r j d u h1 h2) hb, h.d⟩
end Go.Proofs.Ytdpmhpmnkollaaa
