/-
  Part 9 of the proof: 13 texts, one behind the other.
-/
import Derived.Test.YtdpfdlkaickkiaaPart3
import Derived.Test.YtdpfdlkaickkiaaPart1
import Derived.ProofKit
import Derived.Deep.Slices
import Derived.Deep.Strs
import Derived.Carry
import Derived.SizedLaws
import Derived.Lib.SmallJoins
import Derived.Test.YtdpfdlkaickkiaaPart8
import Derived.Deep.RegionHeld3
import Derived.Deep.AppendLies
import Derived.Laws.AppendOwnNone
import Derived.Lib.BitFns
import Derived.Test.YtdpfdlkaickkiaaPart5
import Derived.Test.YtdpfdlkaickkiaaPart4
namespace Go.Proofs.Ytdpfdlkaickkiaa
open Go.ChangeShapes Go.WideShapes Go.ChangeAt Go.RowKit Go.Joins
set_option linter.unusedSimpArgs false
set_option linter.unusedVariables false

theorem Try.laidOut16 : laidOutB Try.prog = true := by kernel_rfl
theorem Try.cells16a : Try.prog.cellsOf 3 = 1 := by kernel_rfl
theorem Try.cells16b : Try.prog.cellsOf 4 = 1 := by kernel_rfl
theorem Try.cells16c : Try.prog.cellsOf 42 = 1 := by kernel_rfl
theorem Try.cells16d : Try.prog.cellsOf 44 = 2 := by kernel_rfl
theorem Try.cells16e : Try.prog.cellsOf 54 = 4 := by kernel_rfl
theorem Try.cells16f : Try.prog.cellsOf 55 = 1 := by kernel_rfl
theorem Try.cells16g : Try.prog.cellsOf 57 = 2 := by kernel_rfl
theorem i64_bd16 {a : Int} (h : (Lit.int .i64 a).wf = true) : -9223372036854775808 ≤ a ∧ a ≤ 9223372036854775807 := by
  simp [Lit.wf, IntKind.min, IntKind.max, IntKind.signed, IntKind.bits] at h; omega
theorem u64_bd16 {a : Int} (h : (Lit.int .u64 a).wf = true) : 0 ≤ a ∧ a < 18446744073709551616 := by
  simp [Lit.wf, IntKind.min, IntKind.max, IntKind.signed, IntKind.bits] at h; omega
theorem mk_word16 (a b : Int) (ha : 0 ≤ a ∧ a < 18446744073709551616) (hb : 0 ≤ b ∧ b < 18446744073709551616) : ∃ x : BitVec 128, hI x = a ∧ lI x = b := by
  refine ⟨BitVec.ofNat 128 (a.toNat * 18446744073709551616 + b.toNat), ?_, ?_⟩
  · rw [hIN, BitVec.toNat_ofNat]
    have : (2 : Nat) ^ 128 = 340282366920938463463374607431768211456 := by decide
    omega
  · rw [lIN, BitVec.toNat_ofNat]
    have : (2 : Nat) ^ 128 = 340282366920938463463374607431768211456 := by decide
    omega
section
variable {H : Type} {enc : TypeId × Value → H} {w : World} {spare : Nat → Bool} {held : Bool}
set_option maxRecDepth 100000 in
theorem trod_word16 {n : Nat} {c0 c1 : Value} {x : DataW H × List MemPlace} (h : DataW.trod enc Try.prog w 0 spare held n 44 [c0, c1] = some x) :
    ∃ a b : Int, c0 = .int .u64 a ∧ c1 = .int .u64 b ∧ (Lit.int .u64 a).wf = true ∧ (Lit.int .u64 b).wf = true := by
  obtain ⟨u0, u1, m, hu, _, g0, g1⟩ := trod_struct2 Try.underlying44 h
  have g0' : DataW.trod enc Try.prog w 0 spare held m 42 [c0] = some u0 := by simpa [Value.cells, Try.cells16c] using g0
  have g1' : DataW.trod enc Try.prog w 0 spare held m 42 [c1] = some u1 := by simpa [Value.cells, Try.cells16c] using g1
  obtain ⟨a, ea, rfl, wa⟩ := DataW.trod_int Try.underlying42 g0'
  obtain ⟨b, eb, rfl, wb⟩ := DataW.trod_int Try.underlying42 g1'
  simp at ea eb
  exact ⟨a, b, ea, eb, wa, wb⟩
set_option maxRecDepth 100000 in
theorem trod_run16 {n : Nat} {c0 c1 c2 c3 : Value} {x : DataW H × List MemPlace} (h : DataW.trod enc Try.prog w 0 spare held n 54 [c0, c1, c2, c3] = some x) :
    ∃ r : Rn, c0 = .int .u64 (hI r.f) ∧ c1 = .int .u64 (lI r.f) ∧ c2 = .bool r.k ∧ c3 = .int .i64 r.n ∧ -9223372036854775808 ≤ r.n ∧ r.n ≤ 9223372036854775807 := by
  obtain ⟨y0, y1, y2, m, hx, _, h0, h1, h2⟩ := Deep.trod_struct3 Try.underlying54 h
  have h0' : DataW.trod enc Try.prog w 0 spare held m 44 [c0, c1] = some y0 := by simpa [Value.cells, Try.cells16d, Try.cells16b, Try.cells16a] using h0
  have h1' : DataW.trod enc Try.prog w 0 spare held m 4 [c2] = some y1 := by simpa [Value.cells, Try.cells16d, Try.cells16b, Try.cells16a] using h1
  have h2' : DataW.trod enc Try.prog w 0 spare held m 3 [c3] = some y2 := by simpa [Value.cells, Try.cells16d, Try.cells16b, Try.cells16a] using h2
  obtain ⟨a, b, rfl, rfl, wa, wb⟩ := trod_word16 h0'
  obtain ⟨k, ek, -⟩ := DataW.trod_bool Try.underlying4 h1'
  obtain ⟨z, ez, -, wz⟩ := DataW.trod_int Try.underlying3 h2'
  simp at ek ez
  subst ek ez
  obtain ⟨f, e1, e2⟩ := mk_word16 a b (u64_bd16 wa) (u64_bd16 wb)
  have := i64_bd16 wz
  exact ⟨⟨f, k, z⟩, by rw [e1], by rw [e2], rfl, rfl, this.1, this.2⟩
def rowN (l : List Rn) : List Value := l.flatMap fun r => [.int .u64 (hI r.f), .int .u64 (lI r.f), .bool r.k, .int .i64 r.n]
theorem rowN_len (l : List Rn) : (rowN l).length = l.length * 4 := by
  unfold rowN
  induction l with
  | nil => rfl
  | cons r l ih => rw [List.flatMap_cons, List.length_append, ih]; simp; omega
theorem rowN_at : ∀ (l : List Rn) (j : Nat) (u : Value), (rowN l)[j]? = some u → ∃ r, l[j / 4]? = some r ∧ [Value.int .u64 (hI r.f), .int .u64 (lI r.f), .bool r.k, .int .i64 r.n][j % 4]? = some u
  | [], j, u, h => by simp [rowN] at h
  | r :: l, j, u, h => by
    by_cases hj : j < 4
    · refine ⟨r, by rw [Nat.div_eq_of_lt hj]; rfl, ?_⟩
      rw [Nat.mod_eq_of_lt hj]
      unfold rowN at h
      rw [List.flatMap_cons, List.getElem?_append_left (by simpa using hj)] at h
      exact h
    · obtain ⟨k, rfl⟩ : ∃ k, j = k + 4 := ⟨j - 4, by omega⟩
      unfold rowN at h
      rw [List.flatMap_cons, List.getElem?_append_right (by simp)] at h
      obtain ⟨r', h1, h2⟩ := rowN_at l k u (by simpa [rowN] using h)
      refine ⟨r', by rw [show (k + 4) / 4 = k / 4 + 1 by omega]; simpa using h1, by rw [show (k + 4) % 4 = k % 4 by omega]; exact h2⟩
def rlD (d : DataW H) (n : Nat) : Prop := n = 0 ∨ ∃ el sp, d = .slice el sp ∧ el.length = n
set_option maxRecDepth 100000 in
theorem trod_runs16 {fuel : Nat} {va : Value} {x : DataW H × List MemPlace} (hf : DataW.trod enc Try.prog w 0 (fun _ => true) held fuel 55 [va] = some x) :
    ∃ l : List Rn, RwN w va l ∧ RowA w 4 va l.length (rowN l) ∧ (∀ r ∈ l, -9223372036854775808 ≤ r.n ∧ r.n ≤ 9223372036854775807) ∧ rlD x.1 l.length := by
  rcases Deep.open_slice Try.underlying55 hf with ⟨hcs, hx⟩ | ⟨a, len', cap', m, n, D, Pl, hcs, _, hl, hm, hmm, hx, hel⟩
  · simp at hcs
    subst hcs
    exact ⟨[], ⟨none, 0, rfl, Nat.le_refl _, .inl rfl⟩, ⟨rfl, none, 0, rfl, Nat.le_refl _, .inl ⟨rfl, rfl, rfl⟩⟩, (fun _ h => by cases h), .inl rfl⟩
  · simp at hcs
    subst hcs
    simp at hmm
    subst hmm
    rw [Try.cells16e] at hel
    haveI : Inhabited Rn := ⟨⟨0#128, false, 0⟩⟩
    obtain ⟨f, hf⟩ := Deep.choose_lt (α := Rn) (n := len') (p := fun i r => (w.cell? (a.add (i * 4)) = some (.int .u64 (hI r.f)) ∧ w.cell? (a.add (i * 4 + 1)) = some (.int .u64 (lI r.f)) ∧ w.cell? (a.add (i * 4 + 2)) = some (.bool r.k) ∧ w.cell? (a.add (i * 4 + 3)) = some (.int .i64 r.n)) ∧ -9223372036854775808 ≤ r.n ∧ r.n ≤ 9223372036854775807) (fun i hi => by
      obtain ⟨cs', h1, h2⟩ := hel i (by omega)
      obtain ⟨_, hlen, hc⟩ := World.cells?_some h1
      match cs', hlen with
      | [c0, c1, c2, c3], _ =>
        obtain ⟨r, e0, e1, e2, e3, hb⟩ := trod_run16 h2
        subst e0 e1 e2 e3
        refine ⟨r, ⟨?_, ?_, ?_, ?_⟩, hb⟩
        · have := hc 0 (by simp); simpa [Deep.add_add] using this
        · have := hc 1 (by simp); simpa [Deep.add_add] using this
        · have := hc 2 (by simp); simpa [Deep.add_add] using this
        · have := hc 3 (by simp); simpa [Deep.add_add] using this)
    have hlen : ((List.range len').map f).length = len' := by simp
    have hget : ∀ j r, ((List.range len').map f)[j]? = some r → j < len' ∧ r = f j := by
      intro j r hj
      have hlt : j < len' := by have := (List.getElem?_eq_some_iff.1 hj).1; simpa using this
      rw [List.getElem?_map, List.getElem?_range hlt] at hj
      simp only [Option.map_some, Option.some.injEq] at hj
      exact ⟨hlt, hj.symm⟩
    refine ⟨(List.range len').map f, ⟨some a, m, by rw [hlen], by rw [hlen]; exact hl, ?_⟩, ⟨by rw [rowN_len], some a, m, by rw [hlen], by rw [hlen]; exact hl, .inr ⟨a, rfl, fun j u hj => ?_⟩⟩, ?_, ?_⟩
    · by_cases hz : len' = 0
      · subst hz
        exact .inl (by simp)
      · have h00 := (hf 0 (by omega)).1.1
        have ea : a = ⟨a.block, a.off, none⟩ := by
          have : a.add (0 * 4) = a := by simp [Addr.add]
          rw [this] at h00
          exact spot9 h00
        refine .inr ⟨a.block, a.off, by rw [← ea], fun j r hj => ?_⟩
        obtain ⟨hlt, rfl⟩ := hget j r hj
        obtain ⟨⟨g0, g1, g2, g3⟩, -⟩ := hf j hlt
        rw [ea, addA] at g0 g1 g2 g3
        exact ⟨g0, g1, g2, g3⟩
    · obtain ⟨r, h1, h2⟩ := rowN_at _ j u hj
      obtain ⟨hlt, rfl⟩ := hget _ r h1
      obtain ⟨⟨g0, g1, g2, g3⟩, -⟩ := hf _ hlt
      have hm4 : j % 4 = 0 ∨ j % 4 = 1 ∨ j % 4 = 2 ∨ j % 4 = 3 := by omega
      rcases hm4 with q | q | q | q <;> rw [q] at h2 <;> simp at h2 <;> subst h2
      · rwa [show j / 4 * 4 = j by omega] at g0
      · rwa [show j / 4 * 4 + 1 = j by omega] at g1
      · rwa [show j / 4 * 4 + 2 = j by omega] at g2
      · rwa [show j / 4 * 4 + 3 = j by omega] at g3
    · intro r hr
      obtain ⟨i, hi⟩ := List.getElem?_of_mem hr
      obtain ⟨hlt, rfl⟩ := hget i r hi
      exact (hf i hlt).2
    · rw [hx]
      exact .inr ⟨_, _, rfl, by simp⟩
structure NdIn (w : World) (b : Int) (v : Value) (l : List Rn) : Prop where
  r : RwN w v l
  a : RowA w 4 v l.length (rowN l)
  b : -9223372036854775808 ≤ b ∧ b ≤ 9223372036854775807
  n : ∀ r ∈ l, -9223372036854775808 ≤ r.n ∧ r.n ≤ 9223372036854775807
set_option maxRecDepth 100000 in
theorem trod_node16 {n : Nat} {c0 c1 : Value} {x : DataW H × List MemPlace} (h : DataW.trod enc Try.prog w 0 (fun _ => true) held n 57 [c0, c1] = some x) :
    ∃ (b : Int) (l : List Rn), c0 = .int .i64 b ∧ NdIn w b c1 l ∧ ∃ y0 y1, x.1 = .agg [y0, y1] ∧ rlD y1 l.length := by
  obtain ⟨y0, y1, m, hx, _, h0, h1⟩ := trod_struct2 Try.underlying57 h
  have h0' : DataW.trod enc Try.prog w 0 (fun _ => true) held m 3 [c0] = some y0 := by simpa [Value.cells, Try.cells16a, Try.cells16f] using h0
  have h1' : DataW.trod enc Try.prog w 0 (fun _ => true) held m 55 [c1] = some y1 := by simpa [Value.cells, Try.cells16a, Try.cells16f] using h1
  obtain ⟨z, ez, -, wz⟩ := DataW.trod_int Try.underlying3 h0'
  simp at ez
  subst ez
  obtain ⟨l, k1, k2, k3, k4⟩ := trod_runs16 h1'
  exact ⟨z, l, rfl, ⟨k1, k2, i64_bd16 wz, k3⟩, _, _, by rw [hx], k4⟩
structure NdsIn (w : World) (v : Value) (V : List Value) (L : List Nde) : Prop where
  d : RwD w v L
  l : V.length = L.length
  e : ∀ (j : Nat) (u : Value) (d : Nde), V[j]? = some u → L[j]? = some d → NdIn w d.b u d.r
  c : ∀ ao c, v = .slice ao L.length c → ∀ (j : Nat) (u : Value) (d : Nde), V[j]? = some u → L[j]? = some d → ∃ b off, ao = some ⟨b, off, none⟩ ∧ w.cell? ⟨b, off + j * 2, none⟩ = some (.int .i64 d.b) ∧ w.cell? ⟨b, off + j * 2 + 1, none⟩ = some u
set_option maxRecDepth 100000 in
theorem open_nodes16 {r : Reach} {b0 : Nat} {v : Value} {d : DataW H} {p : List MemPlace} (hv : Value.okWide Try.prog w r b0 22 v) (h : DataW.Trod enc Try.prog w 0 (fun _ => true) held 22 v d p) :
    ∃ (V : List Value) (L : List Nde), NdsIn w v V L ∧ rlD d L.length ∧ (∀ el sp, d = .slice el sp → ∀ (j : Nat) (d' : Nde), L[j]? = some d' → ∃ y0 y1, DataW.agg [y0, y1] ∈ el ∧ rlD y1 d'.r.length) := by
  obtain ⟨a0, len, cap, rfl⟩ := okWide_slice Try.underlying22 hv
  obtain ⟨fuel, hf⟩ := h
  rcases Deep.open_slice Try.underlying22 hf with ⟨hcs, hx⟩ | ⟨a, len', cap', m, n, D, Pl, hcs, _, hl, hm, hmm, hx, hel⟩
  · simp [Value.cells] at hcs
    obtain ⟨rfl, rfl, rfl⟩ := hcs
    exact ⟨[], [], ⟨⟨none, 0, rfl, Nat.le_refl _, .inl rfl⟩, rfl, fun j u d h => (by simp at h), fun ao c _ j u d h => (by simp at h)⟩, .inl rfl, fun el sp _ j d' h => (by simp at h)⟩
  · simp [Value.cells] at hcs
    obtain ⟨rfl, rfl, rfl⟩ := hcs
    simp at hmm
    subst hmm
    rw [Try.cells16g] at hel
    simp only [Prod.mk.injEq] at hx
    obtain ⟨hx1, -⟩ := hx
    haveI : Inhabited (Value × Nde) := ⟨(undef, ⟨0, []⟩)⟩
    obtain ⟨f, hf⟩ := Deep.choose_lt (α := Value × Nde) (n := len) (p := fun i x => (w.cell? (a.add (i * 2)) = some (.int .i64 x.2.b) ∧ w.cell? (a.add (i * 2 + 1)) = some x.1) ∧ NdIn w x.2.b x.1 x.2.r ∧ ∃ y0 y1, D i = .agg [y0, y1] ∧ rlD y1 x.2.r.length) (fun i hi => by
      obtain ⟨cs', h1, h2⟩ := hel i (by omega)
      obtain ⟨_, hlen, hc⟩ := World.cells?_some h1
      match cs', hlen with
      | [c0, c1], _ =>
        obtain ⟨b, l, rfl, hn, hd⟩ := trod_node16 h2
        refine ⟨(c1, ⟨b, l⟩), ⟨?_, ?_⟩, hn, hd⟩
        · have := hc 0 (by simp); simpa [Deep.add_add] using this
        · have := hc 1 (by simp); simpa [Deep.add_add] using this)
    have hget : ∀ {β : Type} (g : Value × Nde → β) (j : Nat) (y : β), ((List.range len).map fun i => g (f i))[j]? = some y → j < len ∧ y = g (f j) := by
      intro β g j y hj
      have hlt : j < len := by have := (List.getElem?_eq_some_iff.1 hj).1; simpa using this
      rw [List.getElem?_map, List.getElem?_range hlt] at hj
      simp only [Option.map_some, Option.some.injEq] at hj
      exact ⟨hlt, hj.symm⟩
    have hspot : 0 < len → a = ⟨a.block, a.off, none⟩ := fun hz => by
      have h00 := (hf 0 hz).1.1
      have : a.add (0 * 2) = a := by simp [Addr.add]
      rw [this] at h00
      exact spot9 h00
    refine ⟨(List.range len).map (fun i => (f i).1), (List.range len).map (fun i => (f i).2), ⟨⟨some a, m, by simp, by simpa using hl, ?_⟩, by simp, ?_, ?_⟩, ?_, ?_⟩
    · by_cases hz : len = 0
      · subst hz
        exact .inl (by simp)
      · have ea := hspot (by omega)
        refine .inr ⟨a.block, a.off, by rw [← ea], fun j d hj => ?_⟩
        obtain ⟨hlt, rfl⟩ := hget (·.2) j d hj
        obtain ⟨⟨g0, g1⟩, g2, -⟩ := hf j hlt
        rw [ea, addA] at g0 g1
        exact ⟨_, g0, g1, g2.r⟩
    · intro j u d hu hd
      obtain ⟨hlt, rfl⟩ := hget (·.1) j u hu
      obtain ⟨-, rfl⟩ := hget (·.2) j d hd
      exact (hf j hlt).2.1
    · intro ao c' hv' j u d hu hd
      obtain ⟨hlt, rfl⟩ := hget (·.1) j u hu
      obtain ⟨-, rfl⟩ := hget (·.2) j d hd
      have ea := hspot (by omega)
      obtain ⟨⟨g0, g1⟩, -⟩ := hf j hlt
      rw [ea, addA] at g0 g1
      injection hv' with e1
      exact ⟨a.block, a.off, by rw [← ea, e1], g0, g1⟩
    · exact .inr ⟨_, _, hx1, by simp⟩
    · intro el sp he j d' hd
      obtain ⟨hlt, rfl⟩ := hget (·.2) j d' hd
      obtain ⟨y0, y1, e1, e2⟩ := (hf j hlt).2.2
      rw [hx1] at he
      injection he with he
      refine ⟨y0, y1, ?_, e2⟩
      rw [← he, ← e1]
      exact List.mem_map.2 ⟨j, List.mem_range.2 hlt, rfl⟩
theorem weightsAll_mem16 {P : Program} {e : TypeId} {n : Nat} {d : DataW H} : ∀ {el : List (DataW H)}, d ∈ el → n ∈ d.weights P e → n ∈ DataW.weightsAll P e el
  | x :: el, hd, hn => by
    rcases List.mem_cons.1 hd with rfl | hd
    · simp [DataW.weightsAll, hn]
    · simp [DataW.weightsAll, weightsAll_mem16 hd hn]
theorem Try.bytes16a : Try.prog.bytesOf 54 = 32 := by kernel_rfl
theorem Try.bytes16b : Try.prog.bytesOf 57 = 32 := by kernel_rfl
theorem nodes_sized16 {ts : List TypeId} {ds : List (DataW H)} (h : (DataW.weightsEach Try.prog ts ds).all (· ≤ reachBytes) = true) {j : Nat} {d : DataW H} {L : List Nde} (ht : ts[j]? = some 22) (hd : ds[j]? = some d) (hl : rlD d L.length) (hel : ∀ el sp, d = .slice el sp → ∀ (j : Nat) (d' : Nde), L[j]? = some d' → ∃ y0 y1, DataW.agg [y0, y1] ∈ el ∧ rlD y1 d'.r.length) :
    L.length ≤ 140737488355328 ∧ ∀ d' ∈ L, d'.r.length ≤ 140737488355328 := by
  have hrb : reachBytes ≤ 140737488355328 := by
    have := reachBytes_lt
    have : (2 : Nat) ^ 47 = 140737488355328 := by decide
    omega
  rcases hl with hl | ⟨el, sp, rfl, hl⟩
  · have : L = [] := List.eq_nil_of_length_eq_zero hl
    subst this
    exact ⟨by simp, fun d' h => by cases h⟩
  · have hw : ∀ n ∈ DataW.weights Try.prog 22 (.slice el sp), n ≤ reachBytes := fun n hn => by
      have := List.all_eq_true.1 h _ (DataW.weights_mem_each ht hd n hn)
      simpa using this
    have hu : DataW.weights Try.prog 22 (.slice el sp) = (el.length + sp.length) * Try.prog.bytesOf 57 :: (DataW.weightsAll Try.prog 57 el ++ DataW.weightsAll Try.prog 57 sp) := by simp [DataW.weights, Try.underlying22]
    rw [hu, Try.bytes16b] at hw
    refine ⟨?_, fun d' hd' => ?_⟩
    · have := hw _ (List.mem_cons_self ..)
      have : el.length * 32 ≤ (el.length + sp.length) * 32 := Nat.mul_le_mul_right _ (by omega)
      omega
    · obtain ⟨i, hi⟩ := List.getElem?_of_mem hd'
      obtain ⟨y0, y1, hm, hr⟩ := hel el sp rfl i d' hi
      rcases hr with hr | ⟨el2, sp2, rfl, hr⟩
      · omega
      · have hn : (el2.length + sp2.length) * Try.prog.bytesOf 54 ∈ DataW.weights Try.prog 57 (.agg [y0, .slice el2 sp2]) := by
          simp [DataW.weights, DataW.weightsEach, Try.underlying57, Try.underlying55]
        have := hw _ (List.mem_cons_of_mem _ (List.mem_append_left _ (weightsAll_mem16 hm hn)))
        rw [Try.bytes16a] at this
        have : el2.length * 32 ≤ (el2.length + sp2.length) * 32 := Nat.mul_le_mul_right _ (by omega)
        omega
end
end Go.Proofs.Ytdpfdlkaickkiaa
namespace Go.Proofs.Ytdpfdlkaickkiaa
open Go.RowKit
set_option linter.unusedSimpArgs false
set_option linter.unusedVariables false
attribute [local go_sem] Oper.semAt_some

theorem step_append_rowA16 {P : Program} {w : World} {ops : Array Oper} {o : Oper} {a : Act} {K : Act → World → Prop} {Q : Exit → Act → World → Prop} {E : Prop} (hgd : o.guard = none) (s x : Operand) (t : TypeId)
    (ho : o.op = .call { callee := .builtin .append, args := #[s, x], argTypes := #[t, t] })
    (base : Nat) (e : TypeId) (i : TypeInfo) (z : Value) (size bytes : Nat) (ht : P.underlying t = some (.slice e)) (hi : P.info? e = some i) (hz : i.zero = some z)
    (hsize : i.size = size) (hby : i.bytes = bytes) (hzs : z.cells.size = size) (hsz : 0 < size)
    (v : Value) (n : Nat) (xs : List Value) (hs : a.eval s = v) (hown : w.ownsRow base e size v n xs)
    (vx : Value) (m : Nat) (news : List Value) (hx : a.eval x = vx) (hsrc : RowA w size vx m news) (h1 : ∀ y ∈ news, y.oneCell' = true)
    (h63 : n + m ≤ maxLen) (hbytes : (n + m) * bytes ≤ 140737488355328) (hbase : base ≤ w.heap.size)
    (h : ∀ ao cap w', w'.ownsRow base e size (.slice ao (n + m) cap) (n + m) (xs ++ news) → w.grownBy w' v.ownBlock → K (a.put o.dst (.slice ao (n + m) cap)) w') :
    if Region.wanted o (yielded ops a.tmps) = true then Oper.wp P o a w K Q else E := by
  have hw : Region.wanted o (yielded ops a.tmps) = true := by simp [Region.wanted, hgd]
  rw [if_pos hw]
  obtain ⟨hl, xo, c, rfl, hcc, hsrc⟩ := hsrc
  rcases hsrc with ⟨rfl, rfl, rfl⟩ | ⟨ad, rfl, hc⟩
  · have : news = [] := List.eq_nil_of_length_eq_zero (by omega)
    subst this
    obtain ⟨ao, cp, hv⟩ := own_form hown
    have hK := h ao cp w (by rw [List.append_nil, Nat.add_zero, ← hv]; exact hown) ⟨rfl, rfl, rfl, Nat.le_refl _, fun _ _ _ => rfl⟩
    rw [Nat.add_zero, ← hv] at hK
    have hrun := run_append_owned_none (P := P) (w := w) base t o.type e i size ht hi v n xs hown
    unfold Oper.wp
    simp [execOp, ho, resolve, invoke, builtin, hs, hx, hrun, Result.andThen]
    exact hK
  · refine wp_append_own w s x t ho base e i z size bytes ht hi hz hsize hby hzs hsz v n xs hs hown ad m c news hx hl hc h1 h63 hbytes hbase ?_
    intro v' w' h2 h3 _
    obtain ⟨ao, cp, hv⟩ := own_form h2
    rw [hv]
    rw [hv] at h2
    exact h ao cp w' h2 h3
def TwIn (w : World) (v : Value) (L : List Nde) : Prop := ∃ ao c, v = .slice ao L.length c ∧ L.length ≤ c ∧ (L = [] ∨ ∃ b off, ao = some ⟨b, off, none⟩ ∧ ∀ j d, L[j]? = some d → ∃ vr, w.cell? ⟨b, off + j * 2, none⟩ = some (.int .i64 d.b) ∧ w.cell? ⟨b, off + j * 2 + 1, none⟩ = some vr ∧ RowA w 4 vr d.r.length (rowN d.r))
theorem nds_tw {w : World} {v : Value} {V : List Value} {L : List Nde} (h : NdsIn w v V L) : TwIn w v L := by
  obtain ⟨ao, c, hv, hc, hr⟩ := id h.d
  refine ⟨ao, c, hv, hc, ?_⟩
  rcases hr with hr | ⟨b, off, e, hr⟩
  · exact .inl hr
  · refine .inr ⟨b, off, e, fun j d hj => ?_⟩
    obtain ⟨vr, h1, h2, h3⟩ := hr j d hj
    have hjl : j < V.length := by rw [h.l]; exact (List.getElem?_eq_some_iff.mp hj).1
    obtain ⟨b', off', e', c1, c2⟩ := h.c ao c hv j V[j] d (List.getElem?_eq_getElem hjl) hj
    rw [e] at e'
    injection e' with e'
    injection e' with e1 e2
    subst e1 e2
    exact ⟨V[j], c1, c2, (h.e j V[j] d (List.getElem?_eq_getElem hjl) hj).a⟩
theorem TwIn.below {w w' : World} {v : Value} {L : List Nde} (h : TwIn w v L) (hb : Below w.heap.size w w') : TwIn w' v L := by
  obtain ⟨ao, c, e, hc, h⟩ := h
  refine ⟨ao, c, e, hc, h.imp id ?_⟩
  rintro ⟨b, off, e, h⟩
  refine ⟨b, off, e, fun j d hj => ?_⟩
  obtain ⟨vr, h1, h2, h3⟩ := h j d hj
  exact ⟨vr, keepc hb h1, keepc hb h2, h3.below hb⟩
theorem rowN_get : ∀ (l : List Rn) (j : Nat) (r : Rn), l[j]? = some r → (rowN l)[j * 4]? = some (.int .u64 (hI r.f)) ∧ (rowN l)[j * 4 + 1]? = some (.int .u64 (lI r.f)) ∧ (rowN l)[j * 4 + 2]? = some (.bool r.k) ∧ (rowN l)[j * 4 + 3]? = some (.int .i64 r.n)
  | [], j, r, h => by simp at h
  | x :: l, 0, r, h => by
    simp at h
    subst h
    unfold rowN
    rw [List.flatMap_cons]
    exact ⟨rfl, rfl, rfl, rfl⟩
  | x :: l, j + 1, r, h => by
    have ih := rowN_get l j r (by simpa using h)
    have e : ∀ t, (rowN (x :: l))[(j + 1) * 4 + t]? = (rowN l)[j * 4 + t]? := fun t => by
      have : rowN (x :: l) = [Value.int .u64 (hI x.f), .int .u64 (lI x.f), .bool x.k, .int .i64 x.n] ++ rowN l := by unfold rowN; rw [List.flatMap_cons]
      rw [this, List.getElem?_append_right (by simp; omega)]
      congr 1
      simp; omega
    have e0 := e 0
    simp only [Nat.add_zero] at e0
    rw [e0, e, e, e]
    exact ih
theorem own_rwn16 {W : World} {base : Nat} {v : Value} {l : List Rn} (h : W.ownsRow base 54 4 v l.length (rowN l)) : RwN W v l := by
  by_cases hl : l = []
  · subst hl
    obtain ⟨ao, c, hv⟩ := own_form h
    exact ⟨ao, c, hv, Nat.zero_le _, .inl rfl⟩
  · have hp := List.length_pos_iff.mpr hl
    obtain ⟨g, c, hv, hc⟩ : ∃ g c, v = .slice (some ⟨g, 0, none⟩) l.length c ∧ l.length ≤ c := by
      rcases h.2 with ⟨-, h0⟩ | ⟨g, c, cur, e, -, -, h3, -⟩
      · omega
      · exact ⟨g, c, e, h3⟩
    subst hv
    refine ⟨_, c, rfl, hc, .inr ⟨g, 0, rfl, fun j r hj => ?_⟩⟩
    have hjl := (List.getElem?_eq_some_iff.mp hj).1
    obtain ⟨c0, c1, c2, c3⟩ := rowN_get l j r hj
    have q := fun t (ht : t < l.length * 4) => h.cellAt t ht
    rw [Nat.zero_add]
    exact ⟨(q _ (by omega)).trans c0, (q _ (by omega)).trans c1, (q _ (by omega)).trans c2, (q _ (by omega)).trans c3⟩
theorem rwn_blk16 {w W : World} {v : Value} {l : List Rn} (h : RwN w v l) (hk : ∀ z, v.ownBlock = some z → z < w.heap.size → W.heap[z]? = w.heap[z]?) : RwN W v l := by
  obtain ⟨ao, c, e, hc, h⟩ := h
  refine ⟨ao, c, e, hc, h.imp id ?_⟩
  rintro ⟨b, off, e2, h⟩
  refine ⟨b, off, e2, fun j r hj => ?_⟩
  obtain ⟨c0, c1, c2, c3⟩ := h j r hj
  have hb := hk b (by rw [e, e2]; rfl) (cell_in c0)
  have q := fun t => World.cell?_of_block (a := ⟨b, t, none⟩) hb
  exact ⟨(q _).trans c0, (q _).trans c1, (q _).trans c2, (q _).trans c3⟩
def RwNX (w : World) (vb vr : Value) (l : List Rn) : Prop := ∀ W : World, (∀ z, z < w.heap.size → vb.ownBlock ≠ some z → W.heap[z]? = w.heap[z]?) → RwN W vr l
def rowD : List Nde → List Value → List Value
  | d :: L, v :: V => .int .i64 d.b :: v :: rowD L V
  | _, _ => []
theorem rowD_app : ∀ (L : List Nde) (V : List Value) (d : Nde) (v : Value), L.length = V.length → rowD (L ++ [d]) (V ++ [v]) = rowD L V ++ [.int .i64 d.b, v]
  | [], [], d, v, _ => rfl
  | x :: L, y :: V, d, v, h => by
    show _ :: _ :: rowD (L ++ [d]) (V ++ [v]) = _
    rw [rowD_app L V d v (by simpa using h)]; rfl
  | [], y :: V, d, v, h => by simp at h
  | x :: L, [], d, v, h => by simp at h
theorem rowD_get : ∀ (L : List Nde) (V : List Value) (j : Nat) (d : Nde) (v : Value), L[j]? = some d → V[j]? = some v → (rowD L V)[j * 2]? = some (.int .i64 d.b) ∧ (rowD L V)[j * 2 + 1]? = some v
  | [], V, j, d, v, h, _ => by simp at h
  | x :: L, [], j, d, v, _, h => by simp at h
  | x :: L, y :: V, 0, d, v, h1, h2 => by
    simp at h1 h2
    subst h1 h2
    exact ⟨rfl, rfl⟩
  | x :: L, y :: V, j + 1, d, v, h1, h2 => by
    have ih := rowD_get L V j d v (by simpa using h1) (by simpa using h2)
    have e0 : (j + 1) * 2 = j * 2 + 2 := by omega
    rw [e0]
    exact ih
theorem rwd_of {W : World} {base : Nat} {v : Value} {L : List Nde} {V : List Value} (h : W.ownsRow base 57 2 v L.length (rowD L V)) (hl : V.length = L.length) (hr : ∀ (j : Nat) (d : Nde) (vr : Value), L[j]? = some d → V[j]? = some vr → RwN W vr d.r) : RwD W v L := by
  by_cases hL : L = []
  · subst hL
    obtain ⟨ao, c, hv⟩ := own_form h
    exact ⟨ao, c, hv, Nat.zero_le _, .inl rfl⟩
  · have hp := List.length_pos_iff.mpr hL
    obtain ⟨g, c, hv, hc⟩ : ∃ g c, v = .slice (some ⟨g, 0, none⟩) L.length c ∧ L.length ≤ c := by
      rcases h.2 with ⟨-, h0⟩ | ⟨g, c, cur, e, -, -, h3, -⟩
      · omega
      · exact ⟨g, c, e, h3⟩
    subst hv
    refine ⟨_, c, rfl, hc, .inr ⟨g, 0, rfl, fun j d hj => ?_⟩⟩
    have hjl := (List.getElem?_eq_some_iff.mp hj).1
    have hvj : V[j]? = some V[j] := List.getElem?_eq_getElem (by omega)
    obtain ⟨c0, c1⟩ := rowD_get L V j d _ hj hvj
    rw [Nat.zero_add]
    exact ⟨V[j], (h.cellAt _ (by omega)).trans c0, (h.cellAt _ (by omega)).trans c1, hr j d _ hj hvj⟩
theorem Try.infoRn16 : (Try.prog.info? 54).map (fun i => (i.zero, i.size, i.bytes)) = some (some (.agg #[.int .u64 0, .int .u64 0, .bool false, .int .i64 0]), 4, 32) := by kernel_rfl
theorem Try.infoD16 : (Try.prog.info? 57).map (fun i => (i.zero, i.size, i.bytes)) = some (some (.agg #[.int .i64 0, .slice none 0 0]), 2, 32) := by kernel_rfl
theorem rowN_one (l : List Rn) : ∀ y ∈ rowN l, y.oneCell' = true := by
  intro y hy
  unfold rowN at hy
  obtain ⟨r, -, h⟩ := List.mem_flatMap.mp hy
  simp at h
  rcases h with h | h | h | h <;> subst h <;> rfl
theorem news_two16 (w : World) (x y : Value) (T : TypeId) : ∀ j u, [x, y][j]? = some u → (w.alloc (.cells #[x, y] T)).cell? ((⟨w.heap.size, 0, none⟩ : Addr).add j) = some u := by
  intro j u h
  match j, h with
  | 0, h => simp at h; subst h; simp [go_sem, Addr.add]
  | 1, h => simp at h; subst h; simp [go_sem, Addr.add]
  | j + 2, h => simp at h
theorem tw_step {w wr w1 w4 : World} {L : List Nde} {V : List Value} {k g cap m c1 : Nat} {vb vr : Value} {d : Nde} {x : Obj} (hV : ∀ (j : Nat) (d : Nde) (u : Value), L[j]? = some d → V[j]? = some u → RwNX wr vb u d.r)
    (hvb : ∀ z, vb.ownBlock = some z → z < wr.heap.size) (hb1 : Below wr.heap.size wr w1) (hr : RwN w1 vr d.r) (hrz : ∀ z, vr.ownBlock = some z → wr.heap.size ≤ z)
    (hg : (w1.alloc x).grownBy w4 vb.ownBlock) (hat : vb.ownBlock = some g ∨ g = (w1.alloc x).heap.size) (hVl : V.length = k) (hd : L[k]? = some d) :
    ∀ (j : Nat) (d : Nde) (u : Value), L[j]? = some d → (V ++ [vr])[j]? = some u → RwNX w4 (.slice (some ⟨g, 0, none⟩) m c1) u d.r := by
  have hs : (w1.alloc x).heap.size = w1.heap.size + 1 := by simp
  have s1 := hb1.size
  have s4 := hg.size
  have old : ∀ z, z < w1.heap.size → vb.ownBlock ≠ some z → w4.heap[z]? = w1.heap[z]? := fun z hz hn => (hg.block z (by omega) (fun e => hn e.symm)).trans (Below.heap_alloc w1 x z hz)
  intro j d' u h1 h2 W hW
  have hW' : ∀ z, z < w1.heap.size → vb.ownBlock ≠ some z → W.heap[z]? = w1.heap[z]? := fun z hz hn => by
    refine (hW z (by omega) ?_).trans (old z hz hn)
    intro e
    simp only [Value.ownBlock, Option.some.injEq] at e
    subst e
    rcases hat with h | h
    · exact hn h
    · omega
  by_cases hj : j < V.length
  · rw [List.getElem?_append_left hj] at h2
    refine hV j d' u h1 h2 W (fun z hz hn => ?_)
    exact (hW' z (by omega) hn).trans (hb1.block z hz)
  · have hjl := (List.getElem?_eq_some_iff.mp h2).1
    have : j = k := by simp at hjl; omega
    subst this
    rw [hd] at h1
    injection h1 with h1
    subst h1
    rw [List.getElem?_append_right (by omega), hVl] at h2
    simp at h2
    subst h2
    refine rwn_blk16 hr (fun z hz hlt => hW' z hlt (fun e => ?_))
    have := hvb z e
    have := hrz z hz
    omega
theorem two_one16 (b : Int) (ao : Option Addr) (n c : Nat) : ∀ u ∈ [Value.int .i64 b, .slice ao n c], u.oneCell' = true := by
  intro u hu
  simp at hu
  rcases hu with h | h <;> subst h <;> rfl
set_option maxRecDepth 100000 in
set_option maxHeartbeats 16000000 in
theorem twin_any (v : Value) (L : List Nde) (w : World) (hv : TwIn w v L) (hl : L.length ≤ 1000000) (hr : ∀ d ∈ L, d.r.length ≤ 1000000) :
    Calls Try.prog 11 #[v] w fun e w' => ∃ v', e = .returned v' ∧ RwD w' v' L ∧ Below w.heap.size w w' := by
  obtain ⟨i0, hi, hz0, hz1, hz2⟩ := info13 Try.infoRn16
  obtain ⟨j0, ji, jz0, jz1, jz2⟩ := info13 Try.infoD16
  obtain ⟨ao, c, rfl, hc, hrow⟩ := hv
  have HC := hid13 hrow
  have HL : Hid (L.length ≤ 1000000 ∧ ∀ d ∈ L, d.r.length ≤ 1000000) := ⟨hl, hr⟩
  have HO0 : Hid (w.ownsRow w.heap.size 57 2 (.slice none 0 0) 0 []) := World.ownsRow_nil _ _ _ _
  have HB0 := hid13 (Below.refl w.heap.size w)
  clear hr hrow
  go_enter Try.func11, Try.ntmps11
  go_wp2_with fail
  go_loopg [3, 4] L.length (fun g vb kv wr => ∃ (k : Nat) (V : List Value), k + g = L.length ∧ kv = .int .i64 (k : Int) ∧ Hid (wr.ownsRow w.heap.size 57 2 vb k (rowD (L.take k) V)) ∧ Hid (V.length = k) ∧ Hid (∀ (j : Nat) (d : Nde) (u : Value), L[j]? = some d → V[j]? = some u → RwNX wr vb u d.r) ∧ Hid (Below w.heap.size w wr))
  case atStart => exact ⟨0, [], by omega, rfl, HO0, rfl, (fun j d u _ h => by simp at h), HB0⟩
  case round =>
    clear HO0 HB0
    obtain ⟨k, V, hk, rfl, HO, HVl, HVr, HB⟩ := hrel
    by_cases hlt : (k : Int) < (L.length : Int)
    · have hks : k < L.length := by omega
      obtain ⟨b, off, rfl, hcell⟩ := HC.out.resolve_left (by rintro rfl; simp at hks)
      obtain ⟨d, hd⟩ : ∃ d, L[k]? = some d := ⟨_, List.getElem?_eq_getElem hks⟩
      obtain ⟨vr, x0, x1, hA⟩ := hcell k d hd
      have hdr := HL.out.2 d (List.mem_of_getElem? hd)
      have HD := hid13 hd
      have HT : Hid (L.take (k + 1) = L.take k ++ [d]) := by show _ = _; rw [List.take_succ_eq_append_getElem hks]; rw [List.getElem?_eq_getElem hks] at hd; injection hd with hd; rw [hd]
      have HA : Hid (∀ W, Below w.heap.size w W → W.cell? ⟨b, off + k * 2, none⟩ = some (.int .i64 d.b) ∧ W.cell? ⟨b, off + k * 2 + 1, none⟩ = some vr ∧ Below w.heap.size w W) := fun W h => ⟨keepc h x0, keepc h x1, h⟩
      have HRA := hid13 hA
      have mj : IntKind.i64.wrap ((k : Int) + 1) = (k : Int) + 1 := by rw [IntKind.wrap_i64]; omega
      have HK : Hid (k + gk = L.length ∧ k < L.length) := ⟨hk, hks⟩
      have h63 : k + 1 ≤ maxLen := by unfold maxLen; omega
      have h47 : (k + 1) * 32 ≤ 140737488355328 := by omega
      have h63a : 0 + d.r.length ≤ maxLen := by unfold maxLen; omega
      have h47a : (0 + d.r.length) * 32 ≤ 140737488355328 := by omega
      have hbl := HB.out.drew
      have hown : Hid (wr.drew.ownsRow w.heap.size 57 2 u3 k (rowD (L.take k) V)) := HO.out.drew
      obtain ⟨x0, x1, -⟩ := HA.out _ hbl
      have qd : Below wr.heap.size wr (wr.drew.alloc (.cells #[] 54)) := (Below.refl _ _).drew.alloc (Nat.le_refl _) _
      have hmade : Hid ((wr.drew.alloc (.cells #[] 54)).ownsRow wr.heap.size 54 4 (.slice (some ⟨wr.heap.size, 0, none⟩) 0 0) 0 []) := World.ownsRow_made wr.drew #[] 0 (Nat.le_refl _) (by unfold maxLen; omega) (by simp)
      have hsrc := hid13 ((HRA.out.below HB.out).below qd)
      have hbase : Hid (wr.heap.size ≤ (wr.drew.alloc (.cells #[] 54)).heap.size) := qd.size
      have tw_b1 : ∀ {w1 : World}, (wr.drew.alloc (.cells #[] 54)).grownBy w1 (Value.slice (some ⟨wr.heap.size, 0, none⟩) 0 0).ownBlock → Below wr.heap.size wr w1 := fun hg => qd.grown hg qd.size (fun z hz => by simp only [Value.ownBlock, Option.some.injEq] at hz; omega)
      have tw_own : ∀ {w1 : World}, Below wr.heap.size wr w1 → Hid (wr.ownsRow w.heap.size 57 2 u3 k (rowD (L.take k) V)) → Hid (w1.ownsRow w.heap.size 57 2 u3 k (rowD (L.take k) V)) := fun hb h => own_b13 hb h.out
      have hown0 := hid13 HB.out.size
      have tw_base : ∀ {w1 : World} {x : Obj}, Hid (w.heap.size ≤ wr.heap.size) → Below wr.heap.size wr w1 → w.heap.size ≤ (w1.alloc x).heap.size := fun h hb => by have := h.out; have := hb.size; simp; omega
      clear hd hcell hA hk hdr qd
      go_wp2_with fail
      go_region_held3 (fun w' => w'.cell? ⟨b, off + k * 2, none⟩ = some (.int .i64 d.b) ∧ w'.cell? ⟨b, off + k * 2 + 1, none⟩ = some vr ∧ Below w.heap.size w w')
        (first
          | exact HA.out _ hbl
          | (obtain ⟨-, -, k9⟩ := ‹_ ∧ _ ∧ Below _ _ _›; exact HA.out _ (k9.grown hgrow k9.size (fun z hz => (hown.out.lt z hz).1)))
          | (obtain ⟨-, -, k9⟩ := ‹_ ∧ _ ∧ Below _ _ _›; exact HA.out _ (keepb hb1 HB.out))
          | (obtain ⟨-, -, k9⟩ := ‹_ ∧ _ ∧ Below _ _ _›; exact HA.out _ (k9.alloc k9.size _))
          | (obtain ⟨-, -, k9⟩ := ‹_ ∧ _ ∧ Below _ _ _›; exact HA.out _ k9))
        (first
          | (refine step_append_rowA16 rfl (.tmp 17) (.tmp 22) 55 rfl wr.heap.size 54 i0 (.agg #[.int .u64 0, .int .u64 0, .bool false, .int .i64 0]) 4 32 Try.underlying55 hi hz0 hz1 hz2 rfl (by decide) _ 0 [] rfl hmade.out _ d.r.length (rowN d.r) rfl hsrc.out (rowN_one d.r) h63a h47a hbase.out ?_; intro o1 c1 w1 hO1 hg1; have hb1 := tw_b1 hg1; have hown := tw_own hb1 HO)
          | (refine step_append_lies _ rfl (.tmp 11) (.tmp 25) 22 rfl w.heap.size 57 j0 (.agg #[.int .i64 0, .slice none 0 0]) 2 32 Try.underlying22 ji jz0 jz1 jz2 rfl (by decide) _ _ _ rfl (hown.out.alloc _) _ 1 1 [_, _] rfl rfl (news_two16 _ _ _ _) (two_one16 _ _ _ _) (by decide) h63 h47 (tw_base hown0 hb1) _ rfl ?_; intro g cap w4 hown4 hgrow hat hlt4))
      obtain ⟨-, -, k9⟩ := ‹_ ∧ _ ∧ Below _ _ _›
      have HB4 := hid13 k9
      have hO1' : w1.ownsRow wr.heap.size 54 4 (.slice o1 d.r.length c1) d.r.length (rowN d.r) := by rw [Nat.zero_add, List.nil_append] at hO1; exact hO1
      have hgrow' : (w1.alloc (.cells #[.int .i64 d.b, .slice o1 d.r.length c1] 57)).grownBy w4 u3.ownBlock := hgrow
      have hat' : u3.ownBlock = some g ∨ g = (w1.alloc (.cells #[.int .i64 d.b, .slice o1 d.r.length c1] 57)).heap.size := hat
      have HV4 := hid13 (tw_step (w := w) (m := k + 1) (c1 := cap) (cap := cap) HVr.out (fun z hz => (HO.out.lt z hz).2) hb1 (own_rwn16 hO1') (fun z hz => (hO1'.lt z hz).1) hgrow' hat' HVl.out HD.out)
      have HO4 : Hid (w4.ownsRow w.heap.size 57 2 (.slice (some ⟨g, 0, none⟩) (k + 1) cap) (k + 1) (rowD (L.take (k + 1)) (V ++ [.slice o1 d.r.length c1]))) := by
        show World.ownsRow _ _ _ _ _ _ _
        rw [HT.out, rowD_app _ _ _ _ (by rw [HVl.out, List.length_take]; omega)]
        exact hown4
      have HVl4 : Hid ((V ++ [Value.slice o1 d.r.length c1]).length = k + 1) := by show _ = _; rw [List.length_append, HVl.out]; rfl
      clear hown4 hgrow hat hlt4 hown hO1 hg1 hO1' hgrow' hat' k9 x0 x1 HA hsrc hmade hbase tw_b1 tw_own tw_base hown0 HC HVr HO hb1
      go_wp2
      go_roundg (gk - 1)
      case measure => have := HK.out; omega
      case rel => exact ⟨k + 1, _, by have := HK.out; omega, rfl, HO4, HVl4, HV4, HB4⟩
    · have hke : k = L.length := by omega
      subst hke
      have HO2 := HO.out
      rw [List.take_of_length_le (Nat.le_refl _)] at HO2
      have HR := hid13 (rwd_of HO2 HVl.out (fun j d u h1 h2 => HVr.out j d u h1 h2 wr (fun _ _ _ => rfl)))
      clear HC HO2 HO HVr
      go_wp2
      go_ret
      exact ⟨_, rfl, HR.out, HB.out⟩
end Go.Proofs.Ytdpfdlkaickkiaa
namespace Go.Proofs.Ytdpfdlkaickkiaa
open Go.RowKit
set_option linter.unusedSimpArgs false
set_option linter.unusedVariables false

def bt (x : BitVec 32) (p : Nat) : Bool := x.getLsbD (31 - p)
def plc (U : List (BitVec 32)) (p : Nat) : Bool := bt (U.getD (p / 32) 0#32) (p % 32)
def cnt (U : List (BitVec 32)) : Nat → Nat
  | 0 => 0
  | k + 1 => cnt U k + (plc U k).toNat
end Go.Proofs.Ytdpfdlkaickkiaa
namespace Go.Proofs.Ytdpfdlkaickkiaa
open Go.RowKit
set_option linter.unusedSimpArgs false
set_option linter.unusedVariables false

structure PB where
  a : Int
  t : Int
  m : List (BitVec 32)
  es : List (Bool × Int)
end Go.Proofs.Ytdpfdlkaickkiaa
namespace Go.Proofs.Ytdpfdlkaickkiaa
set_option linter.unusedSimpArgs false
set_option linter.unusedVariables false

end Go.Proofs.Ytdpfdlkaickkiaa
namespace Go.Proofs.Ytdpfdlkaickkiaa
open Go.RowKit
set_option linter.unusedSimpArgs false
set_option linter.unusedVariables false

def wds (l : List Nat) : Int := ((l.length / 4 : Nat) : Int)
end Go.Proofs.Ytdpfdlkaickkiaa
namespace Go.Proofs.Ytdpfdlkaickkiaa
open Go.RowKit Go.Shelf
set_option linter.unusedSimpArgs false
set_option linter.unusedVariables false
attribute [local go_sem] Oper.semAt_some

end Go.Proofs.Ytdpfdlkaickkiaa
namespace Go.Proofs.Ytdpfdlkaickkiaa
open Go.RowKit
set_option linter.unusedSimpArgs false
set_option linter.unusedVariables false

def upX (B M : Int) (A : List (Int × Int)) (e : Bool × Int) : List (Int × Int) := if e.1 then A.set e.2.toNat (max (A.getD e.2.toNat (0, 0)).1 B, max (A.getD e.2.toNat (0, 0)).2 M) else A
end Go.Proofs.Ytdpfdlkaickkiaa
namespace Go.Proofs.Ytdpfdlkaickkiaa
open Go.RowKit
set_option linter.unusedSimpArgs false
set_option linter.unusedVariables false

structure PbF (l : List Nat) (P : List PB) : Prop where
  s : (P.map PB.a).Pairwise (· < ·)
  b : ∀ b ∈ P, 0 ≤ b.a ∧ b.a < wds l ∧ (b.m.length : Int) ≤ wds l ∧ (b.es.length : Int) ≤ wds l ∧ 1 ≤ b.t ∧ b.t ≤ 24
theorem PbF.push {l : List Nat} {P : List PB} {a : Int} (h : PbF l P) (hp : ∀ b ∈ P, b.a < a) (b : PB) (hb : b.a = a) (h1 : 0 ≤ b.a ∧ b.a < wds l ∧ (b.m.length : Int) ≤ wds l ∧ (b.es.length : Int) ≤ wds l ∧ 1 ≤ b.t ∧ b.t ≤ 24) : PbF l (P ++ [b]) := by
  refine ⟨?_, fun c hc => ?_⟩
  · rw [List.map_append, List.pairwise_append]
    refine ⟨h.s, by simp, fun x hx y hy => ?_⟩
    obtain ⟨c, hc, rfl⟩ := List.mem_map.mp hx
    simp at hy
    rw [hy, hb]
    exact hp c hc
  · rcases List.mem_append.mp hc with q | q
    · exact h.b c q
    · simp at q
      subst q
      exact h1
end Go.Proofs.Ytdpfdlkaickkiaa
namespace Go.Proofs.Ytdpfdlkaickkiaa
open Go.RowKit
set_option linter.unusedSimpArgs false
set_option linter.unusedVariables false

end Go.Proofs.Ytdpfdlkaickkiaa
namespace Go.Proofs.Ytdpfdlkaickkiaa
open Go.RowKit
set_option linter.unusedSimpArgs false
set_option linter.unusedVariables false

end Go.Proofs.Ytdpfdlkaickkiaa
namespace Go.Proofs.Ytdpfdlkaickkiaa
open Go.RowKit
set_option linter.unusedSimpArgs false
set_option linter.unusedVariables false

end Go.Proofs.Ytdpfdlkaickkiaa
namespace Go.Proofs.Ytdpfdlkaickkiaa
open Go.RowKit
set_option linter.unusedSimpArgs false
set_option linter.unusedVariables false

theorem own_typed18 {W : World} {base e size n : Nat} {v : Value} {xs : List Value} (h : W.ownsRow base e size v n xs) (z : Nat) (hz : v.ownBlock = some z) : ∃ cs, W.heap[z]? = some (.cells cs e) := by
  rcases h.2 with ⟨e0, _⟩ | ⟨g, cap, cur, e0, hb, hg, rest⟩
  · rw [e0] at hz; cases hz
  · rw [e0] at hz
    have q : g = z := by simpa [Value.ownBlock] using hz
    subst q
    exact ⟨_, hg⟩
theorem own_not18 {W : World} {base e size n : Nat} {v : Value} {xs : List Value} (h : W.ownsRow base e size v n xs) {z : Nat} {cs : Array Value} {T : TypeId} {fr : Nat × Nat} (hz : W.heap[z]? = some (.cells cs T fr)) (he : e ≠ T) : v.ownBlock ≠ some z := by
  intro q
  obtain ⟨cs', h2⟩ := own_typed18 h z q
  rw [h2] at hz
  injection hz with hz
  injection hz with _ h2 _
  exact he h2
theorem own_keep18 {W W' : World} {base e size n : Nat} {v : Value} {xs : List Value} (h : W.ownsRow base e size v n xs) (he : ∀ g, v.ownBlock = some g → W'.heap[g]? = W.heap[g]?) : W'.ownsRow base e size v n xs := by
  refine ⟨h.1, ?_⟩
  rcases h.2 with hn | ⟨g, cap, cur, rfl, hb, hg, rest⟩
  · exact .inl hn
  · exact .inr ⟨g, cap, cur, rfl, hb, by rw [he g rfl]; exact hg, rest⟩
end Go.Proofs.Ytdpfdlkaickkiaa
