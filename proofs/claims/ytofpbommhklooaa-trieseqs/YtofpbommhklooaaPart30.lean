/-
  Part 30 of the proof: 1 texts, one behind the other.
-/
import Derived.Test.YtofpbommhklooaaPart22
import Derived.Test.YtofpbommhklooaaPart23
import Derived.Test.YtofpbommhklooaaPart26
import Derived.Test.YtofpbommhklooaaPart27
import Derived.Test.YtofpbommhklooaaPart20
import Derived.Test.YtofpbommhklooaaPart18
import Derived.Test.YtofpbommhklooaaPart28
import Derived.Test.YtofpbommhklooaaPart8
import Derived.Test.YtofpbommhklooaaPart29
import Derived.Test.YtofpbommhklooaaPart2
/-
  The law TrieSeqs.
-/
namespace Go.Proofs.Ytofpbommhklooaa
open Go.RowKit Go.Shelf
set_option linter.unusedSimpArgs false
set_option linter.unusedVariables false
attribute [local go_sem] Oper.semAt_some storeF_run

/-- The law's variables. -/
structure LV8 (w : World) (F G : Int) (v u : Value) (x : BitVec 128) (so : Int) (W : World) : Prop where
  t : W.heap[w.heap.size]? = some (.cells #[.int .i64 F, v] 24)
  u : W.heap[w.heap.size + 1]? = some (.cells #[.int .i64 G, u] 24)
  x : W.heap[w.heap.size + 2]? = some (.cells #[.int .u64 (hI x), .int .u64 (lI x)] 27)
  s : W.heap[w.heap.size + 3]? = some (.cells #[.int .i64 so] 3)
  r : W.heap[w.heap.size + 4]? = some (.cells #[.bool false] 4)
section
variable {w W W' : World} {F G : Int} {v u : Value} {x : BitVec 128} {so : Int}
theorem LV8.heap (k : LV8 w F G v u x so W) (h : ∀ z, z ≤ w.heap.size + 4 → W.heap.size > z → w.heap.size ≤ z → W'.heap[z]? = W.heap[z]?) : LV8 w F G v u x so W' := ⟨(h _ (by omega) (blk_lt k.t) (by omega)).trans k.t, (h _ (by omega) (blk_lt k.u) (by omega)).trans k.u, (h _ (by omega) (blk_lt k.x) (by omega)).trans k.x, (h _ (by omega) (blk_lt k.s) (by omega)).trans k.s, (h _ (by omega) (blk_lt k.r) (by omega)).trans k.r⟩
theorem LV8.below (k : LV8 w F G v u x so W) (hb : Below W.heap.size W W') : LV8 w F G v u x so W' := k.heap (fun z _ h _ => hb.block z h)
theorem LV8.kept (k : LV8 w F G v u x so W) {row : Option Nat} (hg : W.grownBy W' row) (hr : ∀ r, row = some r → ∃ o : Obj, W.heap[r]? = some o ∧ o.isCells = false) : LV8 w F G v u x so W' := ⟨blk_kept k.t hg hr, blk_kept k.u hg hr, blk_kept k.x hg hr, blk_kept k.s hg hr, blk_kept k.r hg hr⟩
end
/-- And both trees. -/
structure SQ8 (w : World) (F G : Int) (v u : Value) (x : BitVec 128) (so : Int) (B g cap wg wc : Nat) (L : List Nd) (ws : List (BitVec 128)) (B2 g2 cap2 wg2 wc2 : Nat) (L2 : List Nd) (ws2 : List (BitVec 128)) (W : World) : Prop where
  lv : LV8 w F G v u x so W
  tx : TrT W B F g cap wg wc L ws
  ty : TrT W B2 G g2 cap2 wg2 wc2 L2 ws2
/-- What lies where. -/
def Wq8 (w : World) (B g wg B2 g2 wg2 M : Nat) : Prop := w.heap.size + 4 < M ∧ (B < M ∧ g < M ∧ wg < M) ∧ B2 < M ∧ g2 < M ∧ wg2 < M
section
variable {w W W' : World} {F G : Int} {v u : Value} {x : BitVec 128} {so : Int} {B g cap wg wc : Nat} {L : List Nd} {ws : List (BitVec 128)} {B2 g2 cap2 wg2 wc2 : Nat} {L2 : List Nd} {ws2 : List (BitVec 128)}
theorem SQ8.below (k : SQ8 w F G v u x so B g cap wg wc L ws B2 g2 cap2 wg2 wc2 L2 ws2 W) (hb : Below W.heap.size W W') : SQ8 w F G v u x so B g cap wg wc L ws B2 g2 cap2 wg2 wc2 L2 ws2 W' := ⟨k.lv.below hb, k.tx.below hb, k.ty.below hb⟩
theorem SQ8.kept (k : SQ8 w F G v u x so B g cap wg wc L ws B2 g2 cap2 wg2 wc2 L2 ws2 W) {row : Option Nat} (hg : W.grownBy W' row) (hr : ∀ r, row = some r → ∃ o : Obj, W.heap[r]? = some o ∧ o.isCells = false) : SQ8 w F G v u x so B g cap wg wc L ws B2 g2 cap2 wg2 wc2 L2 ws2 W' := ⟨k.lv.kept hg hr, k.tx.kept hg hr, k.ty.kept hg hr⟩
theorem SQ8.set (k : SQ8 w F G v u x so B g cap wg wc L ws B2 g2 cap2 wg2 wc2 L2 ws2 W) {M z o : Nat} (hM : Wq8 w B g wg B2 g2 wg2 M) (hz : M ≤ z) (y : Value) : SQ8 w F G v u x so B g cap wg wc L ws B2 g2 cap2 wg2 wc2 L2 ws2 (W.setCell ⟨z, o, none⟩ y) := by
  obtain ⟨a0, ⟨a1, a2, a3⟩, a4, a5, a6⟩ := hM
  exact ⟨k.lv.heap (fun z' h _ _ => setB _ (by omega)), k.tx.heap (setB _ (by omega)) (setB _ (by omega)) (setB _ (by omega)), k.ty.heap (setB _ (by omega)) (setB _ (by omega)) (setB _ (by omega))⟩
theorem SQ8.wq (k : SQ8 w F G v u x so B g cap wg wc L ws B2 g2 cap2 wg2 wc2 L2 ws2 W) (h1 : 0 < L.length) (h2 : 0 < L2.length) (h3 : 0 < ws.length) (h4 : 0 < ws2.length) : Wq8 w B g wg B2 g2 wg2 W.heap.size := ⟨blk_lt k.lv.r, ⟨cell_in k.tx.tn.w, cell_in (k.tx.tn.row 0 h1).1, cell_in (k.tx.wd 0 h3).1⟩, cell_in k.ty.tn.w, cell_in (k.ty.tn.row 0 h2).1, cell_in (k.ty.wd 0 h4).1⟩
end
theorem right_tab8 {F : Int} {l : List Rte} (h : RightT F l) (z : Int) (hz : TabE F l z) : z = 0 := by
  rcases hz.2 h.2.1 with ⟨_, q⟩ | ⟨q, _⟩
  · exact q
  · exact absurd h.2.2 q
set_option maxRecDepth 100000 in
theorem seqnilP8 (a b c : Value) (W : World) : (binOp BinOp.eql 34 (.func (.func 24) #[.agg #[a, b, c]] #[]) .nilFunc).run Try.prog W = .ok (.bool false) W := by
  kernel_rfl
set_option maxRecDepth 100000 in
theorem seqnilD8 (a b c : Value) (W : World) : (binOp BinOp.eql 34 (.func (.func 33) #[.agg #[a, b, c]] #[]) .nilFunc).run Try.prog W = .ok (.bool false) W := by
  kernel_rfl
theorem tfindR8_any {F : Int} {l : List Rte} {ws : List (BitVec 128)} {L : List Nd} (c : Ctx F l ws L) (B g cap wg wc : Nat) (r : Rte) (hr : r ∈ l) (i : Nat) (h1 : i < L.length) (h2 : ln L i = r.1.2) (h3 : InN ws L r.1.1 i) (w : World) (h : TrT w B F g cap wg wc L ws) :
    Calls Try.prog 17 #[.pointer (some ⟨B, 0, none⟩), .agg #[.int .u64 (hI r.1.1), .int .u64 (lI r.1.1), .int .i64 r.1.2]] w fun e w' => e = .returned (.int .i64 (i : Int)) ∧ Below w.heap.size w w' := by
  have hx := (c.rr r hr).1.2.2
  have e : pfA ws L i = r.1.1 := by
    unfold InN at h3
    unfold pfA
    rw [← h3, h2, hx]
  have := tfindAt_any c B g cap wg wc i w h h1
  rw [e, h2] at this
  exact this
/-- The address that a pointer holds. -/
def adOf : Value → Addr
  | .pointer (some a) => a
  | _ => ⟨0, 0, none⟩
/-- An array of so many is its elements. -/
theorem arr174 (t : Array Value) (h : t.size = 174) : ∃ u : Nat → Value, (∀ i, u i = t.getD i undef) ∧ t = #[u 0, u 1, u 2, u 3, u 4, u 5, u 6, u 7, u 8, u 9, u 10, u 11, u 12, u 13, u 14, u 15, u 16, u 17, u 18, u 19, u 20, u 21, u 22, u 23, u 24, u 25, u 26, u 27, u 28, u 29, u 30, u 31, u 32, u 33, u 34, u 35, u 36, u 37, u 38, u 39, u 40, u 41, u 42, u 43, u 44, u 45, u 46, u 47, u 48, u 49, u 50, u 51, u 52, u 53, u 54, u 55, u 56, u 57, u 58, u 59, u 60, u 61, u 62, u 63, u 64, u 65, u 66, u 67, u 68, u 69, u 70, u 71, u 72, u 73, u 74, u 75, u 76, u 77, u 78, u 79, u 80, u 81, u 82, u 83, u 84, u 85, u 86, u 87, u 88, u 89, u 90, u 91, u 92, u 93, u 94, u 95, u 96, u 97, u 98, u 99, u 100, u 101, u 102, u 103, u 104, u 105, u 106, u 107, u 108, u 109, u 110, u 111, u 112, u 113, u 114, u 115, u 116, u 117, u 118, u 119, u 120, u 121, u 122, u 123, u 124, u 125, u 126, u 127, u 128, u 129, u 130, u 131, u 132, u 133, u 134, u 135, u 136, u 137, u 138, u 139, u 140, u 141, u 142, u 143, u 144, u 145, u 146, u 147, u 148, u 149, u 150, u 151, u 152, u 153, u 154, u 155, u 156, u 157, u 158, u 159, u 160, u 161, u 162, u 163, u 164, u 165, u 166, u 167, u 168, u 169, u 170, u 171, u 172, u 173] := by
  refine ⟨fun i => t.getD i undef, fun _ => rfl, ?_⟩
  obtain ⟨l⟩ := t
  have h' : l.length = 174 := h
  have e : l = (List.range 174).map (fun i => (⟨l⟩ : Array Value).getD i undef) := by
    apply List.ext_getElem
    · simp [h']
    · intro i h1 h2
      simp [Array.getD, h1]
  have e2 : (List.range 174).map (fun i => (⟨l⟩ : Array Value).getD i undef) = [(⟨l⟩ : Array Value).getD 0 undef, (⟨l⟩ : Array Value).getD 1 undef, (⟨l⟩ : Array Value).getD 2 undef, (⟨l⟩ : Array Value).getD 3 undef, (⟨l⟩ : Array Value).getD 4 undef, (⟨l⟩ : Array Value).getD 5 undef, (⟨l⟩ : Array Value).getD 6 undef, (⟨l⟩ : Array Value).getD 7 undef, (⟨l⟩ : Array Value).getD 8 undef, (⟨l⟩ : Array Value).getD 9 undef, (⟨l⟩ : Array Value).getD 10 undef, (⟨l⟩ : Array Value).getD 11 undef, (⟨l⟩ : Array Value).getD 12 undef, (⟨l⟩ : Array Value).getD 13 undef, (⟨l⟩ : Array Value).getD 14 undef, (⟨l⟩ : Array Value).getD 15 undef, (⟨l⟩ : Array Value).getD 16 undef, (⟨l⟩ : Array Value).getD 17 undef, (⟨l⟩ : Array Value).getD 18 undef, (⟨l⟩ : Array Value).getD 19 undef, (⟨l⟩ : Array Value).getD 20 undef, (⟨l⟩ : Array Value).getD 21 undef, (⟨l⟩ : Array Value).getD 22 undef, (⟨l⟩ : Array Value).getD 23 undef, (⟨l⟩ : Array Value).getD 24 undef, (⟨l⟩ : Array Value).getD 25 undef, (⟨l⟩ : Array Value).getD 26 undef, (⟨l⟩ : Array Value).getD 27 undef, (⟨l⟩ : Array Value).getD 28 undef, (⟨l⟩ : Array Value).getD 29 undef, (⟨l⟩ : Array Value).getD 30 undef, (⟨l⟩ : Array Value).getD 31 undef, (⟨l⟩ : Array Value).getD 32 undef, (⟨l⟩ : Array Value).getD 33 undef, (⟨l⟩ : Array Value).getD 34 undef, (⟨l⟩ : Array Value).getD 35 undef, (⟨l⟩ : Array Value).getD 36 undef, (⟨l⟩ : Array Value).getD 37 undef, (⟨l⟩ : Array Value).getD 38 undef, (⟨l⟩ : Array Value).getD 39 undef, (⟨l⟩ : Array Value).getD 40 undef, (⟨l⟩ : Array Value).getD 41 undef, (⟨l⟩ : Array Value).getD 42 undef, (⟨l⟩ : Array Value).getD 43 undef, (⟨l⟩ : Array Value).getD 44 undef, (⟨l⟩ : Array Value).getD 45 undef, (⟨l⟩ : Array Value).getD 46 undef, (⟨l⟩ : Array Value).getD 47 undef, (⟨l⟩ : Array Value).getD 48 undef, (⟨l⟩ : Array Value).getD 49 undef, (⟨l⟩ : Array Value).getD 50 undef, (⟨l⟩ : Array Value).getD 51 undef, (⟨l⟩ : Array Value).getD 52 undef, (⟨l⟩ : Array Value).getD 53 undef, (⟨l⟩ : Array Value).getD 54 undef, (⟨l⟩ : Array Value).getD 55 undef, (⟨l⟩ : Array Value).getD 56 undef, (⟨l⟩ : Array Value).getD 57 undef, (⟨l⟩ : Array Value).getD 58 undef, (⟨l⟩ : Array Value).getD 59 undef, (⟨l⟩ : Array Value).getD 60 undef, (⟨l⟩ : Array Value).getD 61 undef, (⟨l⟩ : Array Value).getD 62 undef, (⟨l⟩ : Array Value).getD 63 undef, (⟨l⟩ : Array Value).getD 64 undef, (⟨l⟩ : Array Value).getD 65 undef, (⟨l⟩ : Array Value).getD 66 undef, (⟨l⟩ : Array Value).getD 67 undef, (⟨l⟩ : Array Value).getD 68 undef, (⟨l⟩ : Array Value).getD 69 undef, (⟨l⟩ : Array Value).getD 70 undef, (⟨l⟩ : Array Value).getD 71 undef, (⟨l⟩ : Array Value).getD 72 undef, (⟨l⟩ : Array Value).getD 73 undef, (⟨l⟩ : Array Value).getD 74 undef, (⟨l⟩ : Array Value).getD 75 undef, (⟨l⟩ : Array Value).getD 76 undef, (⟨l⟩ : Array Value).getD 77 undef, (⟨l⟩ : Array Value).getD 78 undef, (⟨l⟩ : Array Value).getD 79 undef, (⟨l⟩ : Array Value).getD 80 undef, (⟨l⟩ : Array Value).getD 81 undef, (⟨l⟩ : Array Value).getD 82 undef, (⟨l⟩ : Array Value).getD 83 undef, (⟨l⟩ : Array Value).getD 84 undef, (⟨l⟩ : Array Value).getD 85 undef, (⟨l⟩ : Array Value).getD 86 undef, (⟨l⟩ : Array Value).getD 87 undef, (⟨l⟩ : Array Value).getD 88 undef, (⟨l⟩ : Array Value).getD 89 undef, (⟨l⟩ : Array Value).getD 90 undef, (⟨l⟩ : Array Value).getD 91 undef, (⟨l⟩ : Array Value).getD 92 undef, (⟨l⟩ : Array Value).getD 93 undef, (⟨l⟩ : Array Value).getD 94 undef, (⟨l⟩ : Array Value).getD 95 undef, (⟨l⟩ : Array Value).getD 96 undef, (⟨l⟩ : Array Value).getD 97 undef, (⟨l⟩ : Array Value).getD 98 undef, (⟨l⟩ : Array Value).getD 99 undef, (⟨l⟩ : Array Value).getD 100 undef, (⟨l⟩ : Array Value).getD 101 undef, (⟨l⟩ : Array Value).getD 102 undef, (⟨l⟩ : Array Value).getD 103 undef, (⟨l⟩ : Array Value).getD 104 undef, (⟨l⟩ : Array Value).getD 105 undef, (⟨l⟩ : Array Value).getD 106 undef, (⟨l⟩ : Array Value).getD 107 undef, (⟨l⟩ : Array Value).getD 108 undef, (⟨l⟩ : Array Value).getD 109 undef, (⟨l⟩ : Array Value).getD 110 undef, (⟨l⟩ : Array Value).getD 111 undef, (⟨l⟩ : Array Value).getD 112 undef, (⟨l⟩ : Array Value).getD 113 undef, (⟨l⟩ : Array Value).getD 114 undef, (⟨l⟩ : Array Value).getD 115 undef, (⟨l⟩ : Array Value).getD 116 undef, (⟨l⟩ : Array Value).getD 117 undef, (⟨l⟩ : Array Value).getD 118 undef, (⟨l⟩ : Array Value).getD 119 undef, (⟨l⟩ : Array Value).getD 120 undef, (⟨l⟩ : Array Value).getD 121 undef, (⟨l⟩ : Array Value).getD 122 undef, (⟨l⟩ : Array Value).getD 123 undef, (⟨l⟩ : Array Value).getD 124 undef, (⟨l⟩ : Array Value).getD 125 undef, (⟨l⟩ : Array Value).getD 126 undef, (⟨l⟩ : Array Value).getD 127 undef, (⟨l⟩ : Array Value).getD 128 undef, (⟨l⟩ : Array Value).getD 129 undef, (⟨l⟩ : Array Value).getD 130 undef, (⟨l⟩ : Array Value).getD 131 undef, (⟨l⟩ : Array Value).getD 132 undef, (⟨l⟩ : Array Value).getD 133 undef, (⟨l⟩ : Array Value).getD 134 undef, (⟨l⟩ : Array Value).getD 135 undef, (⟨l⟩ : Array Value).getD 136 undef, (⟨l⟩ : Array Value).getD 137 undef, (⟨l⟩ : Array Value).getD 138 undef, (⟨l⟩ : Array Value).getD 139 undef, (⟨l⟩ : Array Value).getD 140 undef, (⟨l⟩ : Array Value).getD 141 undef, (⟨l⟩ : Array Value).getD 142 undef, (⟨l⟩ : Array Value).getD 143 undef, (⟨l⟩ : Array Value).getD 144 undef, (⟨l⟩ : Array Value).getD 145 undef, (⟨l⟩ : Array Value).getD 146 undef, (⟨l⟩ : Array Value).getD 147 undef, (⟨l⟩ : Array Value).getD 148 undef, (⟨l⟩ : Array Value).getD 149 undef, (⟨l⟩ : Array Value).getD 150 undef, (⟨l⟩ : Array Value).getD 151 undef, (⟨l⟩ : Array Value).getD 152 undef, (⟨l⟩ : Array Value).getD 153 undef, (⟨l⟩ : Array Value).getD 154 undef, (⟨l⟩ : Array Value).getD 155 undef, (⟨l⟩ : Array Value).getD 156 undef, (⟨l⟩ : Array Value).getD 157 undef, (⟨l⟩ : Array Value).getD 158 undef, (⟨l⟩ : Array Value).getD 159 undef, (⟨l⟩ : Array Value).getD 160 undef, (⟨l⟩ : Array Value).getD 161 undef, (⟨l⟩ : Array Value).getD 162 undef, (⟨l⟩ : Array Value).getD 163 undef, (⟨l⟩ : Array Value).getD 164 undef, (⟨l⟩ : Array Value).getD 165 undef, (⟨l⟩ : Array Value).getD 166 undef, (⟨l⟩ : Array Value).getD 167 undef, (⟨l⟩ : Array Value).getD 168 undef, (⟨l⟩ : Array Value).getD 169 undef, (⟨l⟩ : Array Value).getD 170 undef, (⟨l⟩ : Array Value).getD 171 undef, (⟨l⟩ : Array Value).getD 172 undef, (⟨l⟩ : Array Value).getD 173 undef] := rfl
  rw [e2] at e
  exact congrArg _ e
set_option maxRecDepth 100000 in
set_option maxHeartbeats 64000000 in
theorem trieSeqs_any (F G : Int) (v u : Value) (l m : List Rte) (x0 : BitVec 128) (so : Int) (w : World) (hv : RwR w v l) (hA : RowA w 4 v l.length (rowR l)) (hu : RwR w u m) :
    Calls Try.prog 4 #[.agg #[.int .i64 F, v], .agg #[.int .i64 G, u], .agg #[.int .u64 (hI x0), .int .u64 (lI x0)], .int .i64 so] w fun e w' => e = .returned (.bool true) ∧ Below w.heap.size w w' := by
  obtain ⟨i0, hi, hz0, hz1, hz2⟩ := info_parts Try.infoR6
  have q1 := bl1 w (.cells #[.int .i64 F, v] 24)
  have q2 := bl1 (w.alloc (.cells #[.int .i64 F, v] 24)) (.cells #[.int .i64 G, u] 24)
  have q3 := bl1 ((w.alloc (.cells #[.int .i64 F, v] 24)).alloc (.cells #[.int .i64 G, u] 24)) (.cells #[.int .u64 (hI x0), .int .u64 (lI x0)] 27)
  have q4 := bl1 (((w.alloc (.cells #[.int .i64 F, v] 24)).alloc (.cells #[.int .i64 G, u] 24)).alloc (.cells #[.int .u64 (hI x0), .int .u64 (lI x0)] 27)) (.cells #[.int .i64 so] 3)
  have q5 := bl1 ((((w.alloc (.cells #[.int .i64 F, v] 24)).alloc (.cells #[.int .i64 G, u] 24)).alloc (.cells #[.int .u64 (hI x0), .int .u64 (lI x0)] 27)).alloc (.cells #[.int .i64 so] 3)) (.cells #[.bool false] 4)
  have HB0 := hidX (keepb q5 (keepb q4 (keepb q3 (keepb q2 q1))))
  have s1 : (w.alloc (.cells #[.int .i64 F, v] 24)).heap.size = w.heap.size + 1 := by simp
  have s2 : ((w.alloc (.cells #[.int .i64 F, v] 24)).alloc (.cells #[.int .i64 G, u] 24)).heap.size = w.heap.size + 2 := by simp
  have s3 : (((w.alloc (.cells #[.int .i64 F, v] 24)).alloc (.cells #[.int .i64 G, u] 24)).alloc (.cells #[.int .u64 (hI x0), .int .u64 (lI x0)] 27)).heap.size = w.heap.size + 3 := by simp
  have s4 : ((((w.alloc (.cells #[.int .i64 F, v] 24)).alloc (.cells #[.int .i64 G, u] 24)).alloc (.cells #[.int .u64 (hI x0), .int .u64 (lI x0)] 27)).alloc (.cells #[.int .i64 so] 3)).heap.size = w.heap.size + 4 := by simp
  have HL0 : Hid (∀ X, X = ((((w.alloc (.cells #[.int .i64 F, v] 24)).alloc (.cells #[.int .i64 G, u] 24)).alloc (.cells #[.int .u64 (hI x0), .int .u64 (lI x0)] 27)).alloc (.cells #[.int .i64 so] 3)).alloc (.cells #[.bool false] 4) → LV8 w F G v u x0 so X) := hidX (by
    rintro X rfl
    refine ⟨?_, ?_, ?_, ?_, ?_⟩
    · rw [q5.block _ (by omega), q4.block _ (by omega), q3.block _ (by omega), q2.block _ (by omega)]
      exact Array.getElem?_push_size
    · rw [q5.block _ (by omega), q4.block _ (by omega), q3.block _ (by omega), ← s1]
      exact Array.getElem?_push_size
    · rw [q5.block _ (by omega), q4.block _ (by omega), ← s2]
      exact Array.getElem?_push_size
    · rw [q5.block _ (by omega), ← s3]
      exact Array.getElem?_push_size
    · rw [← s4]
      exact Array.getElem?_push_size)
  have HV := hidX hv
  have HU := hidX hu
  have HA := hidX hA
  obtain ⟨ao, c, rfl, -⟩ := hv
  obtain ⟨ao2, c2, rfl, -⟩ := hu
  have KK := fun w => known8_any w
  clear q1 q2 q3 q4 q5 s1 s2 s3 s4 hA
  refine (callsIn_wide (n := 9)).1 ?_
  refine callsIn_of_wp_marks Try.func4 rfl trivial ?_ rfl
  simp only [Try.ntmps4, List.size_toArray, List.length_cons, List.length_nil, Nat.reduceAdd, Nat.reduceSub, Array.replicate_succ, Array.replicate_zero, List.push_toArray, List.append_toArray, List.nil_append, List.cons_append]
  refine wpIn_wide.2 ?_
  go_wp2_with fail
  revert HB0 HL0
  generalize ((((w.alloc (.cells #[.int .i64 F, (.slice ao l.length c)] 24)).alloc (.cells #[.int .i64 G, (.slice ao2 m.length c2)] 24)).alloc (.cells #[.int .u64 (hI x0), .int .u64 (lI x0)] 27)).alloc (.cells #[.int .i64 so] 3)).alloc (.cells #[.bool false] 4) = W5
  intro HB0 HL0
  refine (KK W5).mono ?_
  rintro e w1 ⟨rfl, hb⟩
  have HB1 := hidX (keepb hb HB0.out)
  have HL1 := hidX ((HL0.out W5 rfl).below hb)
  clear KK hb HB0 HL0
  have KR1 := rightI_any F (.slice ao l.length c) l w1 (HV.out.below HB1.out)
  have KR2 := fun W h => rightI_any G (.slice ao2 m.length c2) m W h
  have t0 := at_block HL1.out.t 0 (.int .i64 F) rfl
  have t1 := at_block HL1.out.t 1 ((.slice ao l.length c)) rfl
  go_wp2_with fail
  refine KR1.mono ?_
  rintro e w2 ⟨⟨r, hr, rfl⟩, hb⟩
  have HB2 := hidX (keepb hb HB1.out)
  have HL2 := hidX (HL1.out.below hb)
  clear KR1 hb t0 t1 HB1 HL1
  cases r with
  | false =>
    clear KR2 hr
    have hr : Cl1 w2 (w.heap.size + 4) (.bool false) := ⟨at_block HL2.out.r 0 _ rfl, fr_blk HL2.out.r⟩
    have HR := hidX (hr.set (.bool true))
    have HBz := hidX (HB2.out.setCell (p := ⟨w.heap.size + 4, 0, none⟩) (by simp) (.bool true))
    obtain ⟨r0, rf⟩ := hr
    clear HL2 HB2
    go_wp2
    obtain ⟨z0, -⟩ := HR.out
    refine ⟨.bool true, ?_, rfl, HBz.out⟩
    simp [results, Try.results4, go_sem, z0]
  | true =>
  have hR := hr.mp rfl
  clear hr
  have KR3 := KR2 w2 (HU.out.below HB2.out)
  have t0 := at_block HL2.out.u 0 (.int .i64 G) rfl
  have t1 := at_block HL2.out.u 1 ((.slice ao2 m.length c2)) rfl
  go_wp2_with fail
  refine KR3.mono ?_
  rintro e w3 ⟨⟨r, hr, rfl⟩, hb⟩
  have HB3 := hidX (keepb hb HB2.out)
  have HL3 := hidX (HL2.out.below hb)
  clear KR2 KR3 hb t0 t1 HB2 HL2
  cases r with
  | false =>
    clear hr
    have hr : Cl1 w3 (w.heap.size + 4) (.bool false) := ⟨at_block HL3.out.r 0 _ rfl, fr_blk HL3.out.r⟩
    have HR := hidX (hr.set (.bool true))
    have HBz := hidX (HB3.out.setCell (p := ⟨w.heap.size + 4, 0, none⟩) (by simp) (.bool true))
    obtain ⟨r0, rf⟩ := hr
    clear HL3 HB3
    go_wp2
    obtain ⟨z0, -⟩ := HR.out
    refine ⟨.bool true, ?_, rfl, HBz.out⟩
    simp [results, Try.results4, go_sem, z0]
  | true =>
  have hS := hr.mp rfl
  clear hr
  by_cases hl3 : 300 < (l.length : Int)
  · have t1 := at_block HL3.out.t 1 ((.slice ao l.length c)) rfl
    have hd : decide (300 < (l.length : Int)) = true := by simpa using hl3
    clear hl3
    have hr : Cl1 w3 (w.heap.size + 4) (.bool false) := ⟨at_block HL3.out.r 0 _ rfl, fr_blk HL3.out.r⟩
    have HR := hidX (hr.set (.bool true))
    have HBz := hidX (HB3.out.setCell (p := ⟨w.heap.size + 4, 0, none⟩) (by simp) (.bool true))
    obtain ⟨r0, rf⟩ := hr
    clear HL3 HB3
    go_wp2
    obtain ⟨z0, -⟩ := HR.out
    refine ⟨.bool true, ?_, rfl, HBz.out⟩
    simp [results, Try.results4, go_sem, z0]
  by_cases hm3 : 300 < (m.length : Int)
  · have t1 := at_block HL3.out.t 1 ((.slice ao l.length c)) rfl
    have t2 := at_block HL3.out.u 1 ((.slice ao2 m.length c2)) rfl
    have hd : decide (300 < (l.length : Int)) = false := by simpa using hl3
    have hd2 : decide (300 < (m.length : Int)) = true := by simpa using hm3
    clear hl3 hm3
    have hr : Cl1 w3 (w.heap.size + 4) (.bool false) := ⟨at_block HL3.out.r 0 _ rfl, fr_blk HL3.out.r⟩
    have HR := hidX (hr.set (.bool true))
    have HBz := hidX (HB3.out.setCell (p := ⟨w.heap.size + 4, 0, none⟩) (by simp) (.bool true))
    obtain ⟨r0, rf⟩ := hr
    clear HL3 HB3
    go_wp2
    obtain ⟨z0, -⟩ := HR.out
    refine ⟨.bool true, ?_, rfl, HBz.out⟩
    simp [results, Try.results4, go_sem, z0]
  have t1 := at_block HL3.out.t 1 ((.slice ao l.length c)) rfl
  have t2 := at_block HL3.out.u 1 ((.slice ao2 m.length c2)) rfl
  have hd : decide (300 < (l.length : Int)) = false := by simpa using hl3
  have hd2 : decide (300 < (m.length : Int)) = false := by simpa using hm3
  have Hlm : Hid (l.length ≤ 300 ∧ m.length ≤ 300) := hidX ⟨by omega, by omega⟩
  clear hl3 hm3
  have t1' := keepc (bl1 w3 (.cells #[] 47)) t1
  have ht3 : w.heap.size < w3.heap.size := blk_lt HL3.out.t
  have HH3 : Hid (w.heap.size + 4 < w3.heap.size) := hidX (blk_lt HL3.out.r)
  go_wp2_with (at_builtin; apply stopHere9)
  refine (show wpList _ _ _ _ _ _ from ?_)
  have al3 := bl1 w3 (.cells #[] 47)
  refine wpList_append_rowA rfl _ _ 22 rfl w3.heap.size 47 i0 (.agg #[.int .u64 0, .int .u64 0, .int .i64 0, .int .i64 0]) 4 32 Try.underlying22 hi hz0 hz1 hz2 rfl (by decide) (.slice (some ⟨w3.heap.size, 0, none⟩) 0 0) 0 [] rfl (World.ownsRow_made w3 #[] 0 (Nat.le_refl _) (by unfold maxLen; omega) (by simp)) ((.slice ao l.length c)) l.length (rowR l) rfl ((HA.out.below HB3.out).below al3) (rowR_cell _) (by have := Hlm.out; unfold maxLen; omega) (by have := Hlm.out; omega) (by simp) ?_
  intro ad cd w4 ha hgrow
  rw [Nat.zero_add, List.nil_append] at ha
  rw [Nat.zero_add]
  have hb : Below w3.heap.size w3 w4 := ((Below.refl _ _).alloc (Nat.le_refl _) _).grown hgrow (by simp) (fun z hz => by simp [Value.ownBlock] at hz; omega)
  have HB4 := hidX (keepb hb HB3.out)
  have H34 : Hid (w3.heap.size ≤ w4.heap.size) := hidX hb.size
  have HL4 := hidX (HL3.out.below hb)
  have HO4 := hidX ha
  clear ha hb hgrow al3 HB3 HL3 t1 t2 t1' hd hd2
  have KN := new8_any F (.slice ad l.length cd) l w4 (own_rwr HO4.out)
  have t0 := at_block HL4.out.t 0 (.int .i64 F) rfl
  go_wp2_with fail
  refine KN.mono ?_
  rintro e w5 ⟨⟨z, hz, hQ⟩, hb⟩
  have hz' := right_tab8 hR z hz
  subst hz'
  rcases hQ with ⟨q, -⟩ | ⟨-, B, g, cap, wg, wc, ws, L, rfl, k1, k2, -, hn1, hn2, hn3⟩
  · exact absurd rfl q
  have HB5 := hidX (keepb hb HB4.out)
  have HL5 := hidX (HL4.out.below hb)
  have HO5 := hidX (own_blk HO4.out (fun z q => hb.block z (HO4.out.lt z q).2))
  have Hgm : Hid (∀ z, (Value.slice ad l.length cd).ownBlock = some z → w3.heap.size ≤ z ∧ z < w4.heap.size) := hidX (fun z q => HO4.out.lt z q)
  have HT5 := hidX k1
  have Hx := hidX (Ctx.of k2 (right_zero hR))
  have Hn1 : Hid (w4.heap.size ≤ B ∧ w4.heap.size ≤ g ∧ w4.heap.size ≤ wg) := hidX ⟨hn1, hn2, hn3⟩
  clear KN hb t0 hz k1 k2 hn1 hn2 hn3 HB4 HL4 HO4
  have KN := new8_any G (.slice ao2 m.length c2) m w5 (HU.out.below HB5.out)
  have t0 := at_block HL5.out.u 0 (.int .i64 G) rfl
  have t1 := at_block HL5.out.u 1 ((.slice ao2 m.length c2)) rfl
  go_wp2_with fail
  refine KN.mono ?_
  rintro e w6 ⟨⟨z, hz, hQ⟩, hb⟩
  have hz' := right_tab8 hS z hz
  subst hz'
  rcases hQ with ⟨q, -⟩ | ⟨-, B2, g2, cap2, wg2, wc2, ws2, L2, rfl, k1, k2, -, hn1, hn2, hn3⟩
  · exact absurd rfl q
  have HB6 := hidX (keepb hb HB5.out)
  have HO6 := hidX (own_blk HO5.out (fun z q => hb.block z (HO5.out.lt z q).2))
  have HQ6 : Hid (SQ8 w F G ((.slice ao l.length c)) ((.slice ao2 m.length c2)) x0 so B g cap wg wc L ws B2 g2 cap2 wg2 wc2 L2 ws2 w6) := hidX ⟨HL5.out.below hb, HT5.out.below hb, k1⟩
  have Hy := hidX (Ctx.of k2 (right_zero hS))
  have Hn2 : Hid (w5.heap.size ≤ B2 ∧ w5.heap.size ≤ g2 ∧ w5.heap.size ≤ wg2 ∧ w4.heap.size ≤ w5.heap.size) := hidX ⟨hn1, hn2, hn3, by have := HT5.out; have := cell_in HT5.out.tn.w; have := Hn1.out; omega⟩
  clear KN hb t0 t1 hz k1 k2 hn1 hn2 hn3 HB5 HL5 HO5 HT5
  obtain ⟨Mp, hMp⟩ : ∃ Mp : Nat → Prop, ∀ z, Mp z ↔ (Value.slice ad l.length cd).ownBlock = some z := ⟨_, fun _ => Iff.rfl⟩
  have HMp : Hid (∀ z, Mp z → w3.heap.size ≤ z ∧ z < w4.heap.size) := hidX (fun z q => Hgm.out z ((hMp z).mp q))
  have HMo : Hid (∀ z, (Value.slice ad l.length cd).ownBlock = some z → Mp z) := hidX (fun z q => (hMp z).mpr q)
  have hll : l.length ≤ 300 := Hlm.out.1
  clear hMp Hgm
  go_wp2_with fail
  go_loopw [14] (fun i wr => ∃ k : Nat, k ≤ l.length ∧ i = .int .i64 k ∧ Hid ((∃ xs, wr.ownsRow w3.heap.size 47 4 (.slice ad l.length cd) l.length xs) ∧ Bt Mp w6 wr)) (fun i _ => l.length - (intOf i).toNat)
  case atStart => exact ⟨0, by omega, rfl, hidX ⟨⟨_, HO6.out⟩, Bt.refl _ _⟩⟩
  case round =>
    clear HO6
    obtain ⟨k, hk, rfl, HO⟩ := hrel
    by_cases hlt : (k : Int) < (l.length : Int)
    · have hks : k < l.length := by omega
      obtain ⟨xs, hO⟩ := HO.out.1
      obtain ⟨gm, hg, -⟩ : ∃ gm, ad = some ⟨gm, 0, none⟩ ∧ True := by
        rcases hO.2 with ⟨e, e2⟩ | ⟨gm, cap, cur, e, _⟩
        · omega
        · injection e with e1
          exact ⟨gm, e1, trivial⟩
      subst hg
      obtain ⟨⟨u0, c0⟩, f0⟩ := own_any hO (k * 4) (by omega)
      obtain ⟨⟨u1, c1⟩, f1⟩ := own_any hO (k * 4 + 1) (by omega)
      obtain ⟨⟨u2, c2'⟩, f2⟩ := own_any hO (k * 4 + 2) (by omega)
      obtain ⟨⟨u3, c3⟩, f3⟩ := own_any hO (k * 4 + 3) (by omega)
      have mk : IntKind.i64.wrap ((k : Int) + 1) = (k : Int) + 1 := by rw [IntKind.wrap_i64]; omega
      have hM := HMo.out gm rfl
      have HO2 : Hid ((∃ xs, ((((wr.setCell ⟨gm, k * 4, none⟩ (.int .u64 0)).setCell ⟨gm, k * 4 + 1, none⟩ (.int .u64 0)).setCell ⟨gm, k * 4 + 2, none⟩ (.int .i64 0)).setCell ⟨gm, k * 4 + 3, none⟩ (.int .i64 5)).ownsRow w3.heap.size 47 4 (.slice (some ⟨gm, 0, none⟩) l.length cd) l.length xs) ∧ Bt Mp w6 ((((wr.setCell ⟨gm, k * 4, none⟩ (.int .u64 0)).setCell ⟨gm, k * 4 + 1, none⟩ (.int .u64 0)).setCell ⟨gm, k * 4 + 2, none⟩ (.int .i64 0)).setCell ⟨gm, k * 4 + 3, none⟩ (.int .i64 5))) := hidX ⟨⟨_, ((((hO.stored (k * 4) (.int .u64 0)).1.stored (k * 4 + 1) (.int .u64 0)).1.stored (k * 4 + 2) (.int .i64 0)).1.stored (k * 4 + 3) (.int .i64 5)).1⟩, (((HO.out.2.set (.inl hM) (k * 4) (.int .u64 0)).set (.inl hM) (k * 4 + 1) (.int .u64 0)).set (.inl hM) (k * 4 + 2) (.int .i64 0)).set (.inl hM) (k * 4 + 3) (.int .i64 5)⟩
      clear hO hM
      go_wp2
      go_roundw
      case rel => exact ⟨k + 1, by omega, by simp, HO2⟩
      case measure => simp [intOf]; omega
    · have hd : decide ((k : Int) < (l.length : Int)) = false := by simpa using hlt
      have hbt := HO.out.2
      have hMn := HMp.out
      have hB6s := HB6.out.size
      have HBr := hidX (hbt.low HB6.out (fun z q => by have := hMn z q; omega))
      have HQr : Hid (SQ8 w F G ((.slice ao l.length c)) ((.slice ao2 m.length c2)) x0 so B g cap wg wc L ws B2 g2 cap2 wg2 wc2 L2 ws2 wr) := hidX (by
        have q := HQ6.out
        have a1 := Hn1.out
        have a2 := Hn2.out
        have a3 := HH3.out
        have wq := q.wq Hx.out.t.pos Hy.out.t.pos (by rw [Hx.out.t.wl]; omega) (by rw [Hy.out.t.wl]; omega)
        obtain ⟨b0, ⟨b1, b2, b3⟩, b4, b5, b6⟩ := wq
        have nb : ∀ z, w4.heap.size ≤ z → z < w6.heap.size → wr.heap[z]? = w6.heap[z]? := fun z h1 h2 => hbt.blk z h2 (fun q => by have := hMn z q; omega)
        exact ⟨q.lv.heap (fun z h1 h2 h3 => hbt.blk z h2 (fun q => by have := hMn z q; omega)), q.tx.heap (nb _ (by omega) (by omega)) (nb _ (by omega) (by omega)) (nb _ (by omega) (by omega)), q.ty.heap (nb _ (by omega) (by omega)) (nb _ (by omega) (by omega)) (nb _ (by omega) (by omega))⟩)
      have HAp : Hid (¬ B = w.heap.size + 2 ∧ ¬ g = w.heap.size + 2 ∧ ¬ wg = w.heap.size + 2 ∧ ¬ B2 = w.heap.size + 2 ∧ ¬ g2 = w.heap.size + 2 ∧ ¬ wg2 = w.heap.size + 2) := hidX (by
        have a1 := Hn1.out
        have a2 := Hn2.out
        have a3 := HH3.out
        have a4 := HO.out.1
        have a5 := H34.out
        refine ⟨?_, ?_, ?_, ?_, ?_, ?_⟩ <;> omega)
      clear HO hbt hMn hB6s HB6 HQ6 HMp HMo hk Hn1 Hn2
      have hF := Hx.out.F0
      have KF := fun w => Fitted_zero F x0 w hF.1 hF.2
      obtain ⟨x, hxe⟩ : ∃ x, x = x0 &&& maskW F := ⟨_, rfl⟩
      have Hxr : Hid (cutW x F = x) := hidX (by rw [hxe]; unfold cutW; rw [BitVec.and_assoc]; simp)
      rw [← hxe] at KF
      have t0 := at_block HQr.out.lv.t 0 (.int .i64 F) rfl
      have y0 := at_block HQr.out.lv.x 0 (.int .u64 (hI x0)) rfl
      have y1 := at_block HQr.out.lv.x 1 (.int .u64 (lI x0)) rfl
      clear hxe hF
      go_wp2_with fail
      refine (KF wr).mono ?_
      rintro e w7 ⟨rfl, hb⟩
      have HB7 := hidX (keepb hb HBr.out)
      have hQ7 := HQr.out.below hb
      clear hb HBr HQr KF t0 y0 y1
      have y0 := at_block hQ7.lv.x 0 (.int .u64 (hI x0)) rfl
      have y1 := at_block hQ7.lv.x 1 (.int .u64 (lI x0)) rfl
      have f0 := fr_blk (j := 0) hQ7.lv.x
      have f1 := fr_blk (j := 1) hQ7.lv.x
      have wq := hQ7.wq Hx.out.t.pos Hy.out.t.pos (by rw [Hx.out.t.wl]; omega) (by rw [Hy.out.t.wl]; omega)
      have Hap : Hid (¬ B = w.heap.size + 2 ∧ ¬ g = w.heap.size + 2 ∧ ¬ wg = w.heap.size + 2 ∧ ¬ B2 = w.heap.size + 2 ∧ ¬ g2 = w.heap.size + 2 ∧ ¬ wg2 = w.heap.size + 2) := HAp
      have hs : ∀ z, ¬ z = w.heap.size + 2 → ((w7.setCell ⟨w.heap.size + 2, 0, none⟩ (.int .u64 (hI x))).setCell ⟨w.heap.size + 2, 1, none⟩ (.int .u64 (lI x))).heap[z]? = w7.heap[z]? := fun z hz => by rw [setB _ hz, setB _ hz]
      have HB8 := hidX ((HB7.out.setCell (p := ⟨w.heap.size + 2, 0, none⟩) (by simp) (.int .u64 (hI x))).setCell (p := ⟨w.heap.size + 2, 1, none⟩) (by simp) (.int .u64 (lI x)))
      have HQ8 : Hid (SQ8 w F G ((.slice ao l.length c)) ((.slice ao2 m.length c2)) x so B g cap wg wc L ws B2 g2 cap2 wg2 wc2 L2 ws2 ((w7.setCell ⟨w.heap.size + 2, 0, none⟩ (.int .u64 (hI x))).setCell ⟨w.heap.size + 2, 1, none⟩ (.int .u64 (lI x)))) := hidX (by
        obtain ⟨a1, a2, a3, a4, a5, a6⟩ := Hap.out
        exact ⟨⟨(hs _ (by omega)).trans hQ7.lv.t, (hs _ (by omega)).trans hQ7.lv.u, by simpa using set_blk (o := 1) (set_blk (o := 0) hQ7.lv.x (.int .u64 (hI x))) (.int .u64 (lI x)), (hs _ (by omega)).trans hQ7.lv.s, (hs _ (by omega)).trans hQ7.lv.r⟩, hQ7.tx.heap (hs _ a1) (hs _ a2) (hs _ a3), hQ7.ty.heap (hs _ a4) (hs _ a5) (hs _ a6)⟩)
      have t0 := at_block hQ7.lv.t 0 (.int .i64 F) rfl
      have t1 := at_block hQ7.lv.t 1 ((.slice ao l.length c)) rfl
      clear HB7 hQ7 hs wq
      have KL := fun W h => rlookup_any F x (.slice ao l.length c) l W h (by have := Hlm.out; omega) (fun r hr => ⟨(Hx.out.rr r hr).1.1, Int.le_trans (Hx.out.rr r hr).1.2.1 Hx.out.F0.2, (Hx.out.rr r hr).1.2.2⟩)
      obtain ⟨N, wq⟩ := Hx.out.t.path x
      have wt := wq.to
      rw [Int.natCast_zero] at wt
      have Hwt := hidX wt
      have hN9 : N + 1 ≤ 1000000 := by
        have hnod := wq.nod
        rw [Int.natCast_zero] at hnod
        obtain ⟨m, -, -, m2, m3, -⟩ := hnod N _ (List.getElem?_eq_getElem (by rw [wayL_len]; omega))
        have := Hx.out.t.ln128 m2
        have := Hx.out.t.ln0
        omega
      have HN9 := hidX hN9
      have Hck : Hid (checkE F x F = 0) := hidX (chkIn8 Hx.out.fam Hx.out.F0.1 (Int.le_refl _) Hxr.out)
      have hpth : pthL L F x (N + 1) = wayL L x (N + 1) 0 := by unfold pthL; rw [if_pos Hck.out]
      have hm0 := Hx.out.last wq
      rw [← hpth] at hm0
      rw [← hm0] at KL
      have Hln : Hid ((pthL L F x (N + 1)).length = N + 1) := hidX (by rw [hpth, wayL_len])
      have HKf : Hid (∀ X, TrT X B F g cap wg wc L ws → Calls Try.prog 8 #[.pointer (some ⟨B, 0, none⟩), .agg #[.int .u64 (hI x), .int .u64 (lI x)]] X fun e w' => e = .returned (.int .i64 (lastH L (pthL L F x (N + 1)) 0)) ∧ Below X.heap.size X w') := hidX (fun X k => tlook_any (N + 1) B F g cap (.slice (some ⟨wg, 0, none⟩) ws.length wc) L x (fun _ => Hwt.out) X k.tn Hx.out.t.pos Hx.out.ok (by have := Hx.out.len; omega))
      clear wq wt hpth hm0 hN9
      revert KL HKf
      generalize lastH L (pthL L F x (N + 1)) 0 = hw
      intro KL HKf
      go_wp2_with fail
      clear y0 y1 f0 f1 t0 t1
      revert HB8 HQ8
      generalize (w7.setCell ⟨w.heap.size + 2, 0, none⟩ (.int .u64 (hI x))).setCell ⟨w.heap.size + 2, 1, none⟩ (.int .u64 (lI x)) = W8
      intro HB8 HQ8
      have KL8 := KL W8 (HV.out.below HB8.out)
      refine KL8.mono ?_
      rintro e w9 ⟨rfl, hb⟩
      have HB9 := hidX (keepb hb HB8.out)
      have HQ9 := hidX (HQ8.out.below hb)
      clear hb HB8 HQ8 KL KL8
      have y0 := at_block HQ9.out.lv.x 0 (.int .u64 (hI x)) rfl
      have y1 := at_block HQ9.out.lv.x 1 (.int .u64 (lI x)) rfl
      go_wp2_with fail
      refine (tpath_any B x w9).mono ?_
      rintro e wa ⟨rfl, hb⟩
      have HBa := hidX (keepb hb HB9.out)
      have HQa := hidX (HQ9.out.below hb)
      clear hb HB9 HQ9 y0 y1
      go_wp2_with fail
      refine (tdown_any B 0 1 wa).mono ?_
      rintro e wb ⟨rfl, rfl⟩
      have q1 := bl1 wb (.cells #[.func (.func 33) #[.agg #[.pointer (some ⟨B, 0, none⟩), .int .i64 0, .int .i64 1]] #[]] 34)
      have q2 := bl1 (wb.alloc (.cells #[.func (.func 33) #[.agg #[.pointer (some ⟨B, 0, none⟩), .int .i64 0, .int .i64 1]] #[]] 34)) (.cells #[.int .i64 0] 3)
      have s1 : (wb.alloc (.cells #[.func (.func 33) #[.agg #[.pointer (some ⟨B, 0, none⟩), .int .i64 0, .int .i64 1]] #[]] 34)).heap.size = wb.heap.size + 1 := by simp
      have HBl := hidX (keepb q2 (keepb q1 HBa.out))
      have HQl := hidX ((HQa.out.below q1).below q2)
      have hfd := cl1_new wb wb.heap.size (.func (.func 33) #[.agg #[.pointer (some ⟨B, 0, none⟩), .int .i64 0, .int .i64 1]] #[]) 34 rfl
      have HDl := hidX (hfd.below q2)
      have HNl := hidX (cl1_new (wb.alloc (.cells #[.func (.func 33) #[.agg #[.pointer (some ⟨B, 0, none⟩), .int .i64 0, .int .i64 1]] #[]] 34)) (wb.heap.size + 1) (.int .i64 0) 3 s1.symm)
      have Hq : Hid (Wq8 w B g wg B2 g2 wg2 wb.heap.size) := hidX (HQa.out.wq Hx.out.t.pos Hy.out.t.pos (by rw [Hx.out.t.wl]; omega) (by rw [Hy.out.t.wl]; omega))
      have E0 := fun W => seqnilP8 (.pointer (some ⟨B, 0, none⟩)) (.int .u64 (hI x)) (.int .u64 (lI x)) W
      have E1 := fun W => seqnilD8 (.pointer (some ⟨B, 0, none⟩)) (.int .i64 0) (.int .i64 1) W
      clear hfd q1 q2 s1 HBa HQa
      go_wp2_with fail
      clear E0 E1
      revert HBl HQl HDl HNl Hq
      generalize (wb.alloc (.cells #[.func (.func 33) #[.agg #[.pointer (some ⟨B, 0, none⟩), .int .i64 0, .int .i64 1]] #[]] 34)).alloc (.cells #[.int .i64 0] 3) = Wl
      generalize wb.heap.size = Dn
      intro HBl HQl HDl HNl Hq
      have hWl : Dn + 1 < Wl.heap.size := HNl.out.lt
      have hq := Hq.out
      have hqB : B < Dn ∧ g < Dn := ⟨hq.2.1.1, hq.2.1.2.1⟩
      have hqw : w.heap.size + 4 < Dn := hq.1
      refine (wpIn_wide (n := 9)).1 ?_
      refine rangeYA 9 (by decide) (gf := 24) (ba := #[.agg #[.pointer (some ⟨B, 0, none⟩), .int .u64 (hI x), .int .u64 (lI x)]]) (lb := #[]) rfl (enters_of Try.func24 (by kernel_rfl) rfl)
        (way_each (9 - 1) (N + 1) (fun z => z = B ∨ z = g) (Wl.heap.size + 2) B F g cap (.slice (some ⟨wg, 0, none⟩) ws.length wc) L x (fun _ => Hwt.out) Wl HQl.out.tx.tn (.inl (.inl rfl)) (.inl (.inr rfl)) Hx.out.ok (by have := Hx.out.len; omega)) (Nat.le_refl _) (fun A => KW.refl _ _ _) (fun h k => h.trans k) (fun V o o' h1 h2 => kw_put (by rintro (q | q) <;> omega) (by omega) V o o' h1 h2) (Below.refl _ _) (fun _ => rfl)
        (fun pre V => (SQ8 w F G ((.slice ao l.length c)) ((.slice ao2 m.length c2)) x so B g cap wg wc L ws B2 g2 cap2 wg2 wc2 L2 ws2 V ∧ Cl1 V Dn (.func (.func 33) #[.agg #[.pointer (some ⟨B, 0, none⟩), .int .i64 0, .int .i64 1]] #[]) ∧ Cl1 V (Dn + 1) (.int .i64 (pre.length : Int))) ∧ Below w.heap.size w V)
        (fun c pre V => False)
        (OwnFrom.and (Own.from (fun s A B row hs hg hr => ⟨hs.1.kept hg hr, hs.2.1.kept hg hr, hs.2.2.kept hg hr⟩) _) (ownFrom_below (Nat.le_refl _) (by omega)))
        (fun c s A B row hs hg hr => hs)
        ⟨⟨HQl.out, HDl.out, HNl.out⟩, HBl.out⟩
        ?AX ?assign ?body ?done ?stop
      case assign =>
        intro lo y V K hK
        unfold encI
        simp only [List.zip_toArray, List.zip_cons_cons, List.zip_nil_left, List.zip_nil_right, List.foldl_toArray, List.foldl_cons, List.foldl_nil, List.setIfInBounds_toArray, List.set_cons_zero, List.set_cons_succ, Array.zip]
        have HKK := hidX hK
        clear hK
        gi_wp2
        exact HKK.out
      case body =>
        rintro lo pre y V hl - ⟨⟨hi1, hi2, hi3⟩, hi4⟩ hlt
        have hlen := hlt.length_le
        rw [Hln.out, List.length_append, List.length_singleton] at hlen
        have hN9 := HN9.out
        obtain ⟨k0, kf⟩ := hi3
        have wn : IntKind.i64.wrap ((pre.length : Int) + 1) = ((pre ++ [y]).length : Int) := by
          rw [IntKind.wrap_i64]; simp; omega
        have HN := hidX (show KeepsFrom Wl.heap.size V (V.setCell ⟨Dn + 1, 0, none⟩ (.int .i64 ((pre ++ [y]).length : Int))) ∧ KW (fun z => z = B ∨ z = g) (Wl.heap.size + 2) V (V.setCell ⟨Dn + 1, 0, none⟩ (.int .i64 ((pre ++ [y]).length : Int))) ∧ (SQ8 w F G ((.slice ao l.length c)) ((.slice ao2 m.length c2)) x so B g cap wg wc L ws B2 g2 cap2 wg2 wc2 L2 ws2 (V.setCell ⟨Dn + 1, 0, none⟩ (.int .i64 ((pre ++ [y]).length : Int))) ∧ Cl1 (V.setCell ⟨Dn + 1, 0, none⟩ (.int .i64 ((pre ++ [y]).length : Int))) Dn (.func (.func 33) #[.agg #[.pointer (some ⟨B, 0, none⟩), .int .i64 0, .int .i64 1]] #[]) ∧ Cl1 (V.setCell ⟨Dn + 1, 0, none⟩ (.int .i64 ((pre ++ [y]).length : Int))) (Dn + 1) (.int .i64 ((pre ++ [y]).length : Int))) ∧ Below w.heap.size w (V.setCell ⟨Dn + 1, 0, none⟩ (.int .i64 ((pre ++ [y]).length : Int))) from
          ⟨⟨by simp, fun z o h1 h2 h3 => (setB _ (by omega)).trans h2⟩, kw_set (by rintro (q | q) <;> omega) (by omega) V _, ⟨hi1.set hq (by omega) _, hi2.heap (setB _ (by omega)), (Cl1.set ⟨k0, kf⟩ _)⟩, hi4.setCell (p := ⟨Dn + 1, 0, none⟩) (by show w.heap.size ≤ Dn + 1; omega) _⟩)
        revert wn HN
        generalize hn2 : ((pre ++ [y]).length : Int) = n2
        intro wn HN
        have Hn2 := hidX hn2
        clear hn2 hi1 hi2 hi4 hlen hN9 hq
        gi_wp2
        exact ⟨HN.out.1, HN.out.2.1, ⟨HN.out.2.2.1.1, HN.out.2.2.1.2.1, by rw [Hn2.out]; exact HN.out.2.2.1.2.2⟩, HN.out.2.2.2⟩
      case stop =>
        rintro D9 c pre V hD hpre hi hK
        exact hi.elim
      case done =>
        rintro D9 ys V hD rfl ⟨⟨hi1, hi2, hi3⟩, hi4⟩ hK
        rw [Hln.out] at hi3
        have q1 := bl1 V (.cells #[.int .i64 0] 3)
        have HB0 := hidX (keepb q1 hi4)
        have HQ0 := hidX (hi1.below q1)
        have HD0 := hidX (hi2.below q1)
        have HN0 := hidX (hi3.below q1)
        have HT0 := hidX (cl1_new V V.heap.size (.int .i64 0) 3 rfl)
        have HK0 := hidX ((q1.block D9 (blk_lt hK)).trans hK)
        have hD0 : Dn + 1 < D9 := by omega
        clear q1 hi1 hi2 hi3 hi4 hK hD
        refine wl_nil8 (P := Try.prog) (ops := #[]) ?_
        go_wp2_with fail
        revert HB0 HQ0 HD0 HN0 HT0 HK0
        generalize V.alloc (.cells #[.int .i64 0] 3) = W0
        generalize V.heap.size = T0
        intro HB0 HQ0 HD0 HN0 HT0 HK0
        refine wp_loop (fun a W => ∃ (t : Nat) (ls : List Nat) (T9 : Nat), a.tmps.size = 174 ∧ a.tmps.getD 5 undef = .pointer (some ⟨w.heap.size + 1, 0, none⟩) ∧ a.tmps.getD 6 undef = .pointer (some ⟨w.heap.size + 1 + 1, 0, none⟩) ∧ a.tmps.getD 7 undef = .pointer (some ⟨w.heap.size + 1 + 1 + 1, 0, none⟩) ∧ a.tmps.getD 8 undef = .pointer (some ⟨w.heap.size + 1 + 1 + 1 + 1, 0, none⟩) ∧ a.tmps.getD 10 undef = .pointer (some ⟨B, 0, none⟩) ∧ a.tmps.getD 12 undef = .pointer (some ⟨B2, 0, none⟩) ∧ a.tmps.getD 15 undef = .int .i64 hw ∧ a.tmps.getD 16 undef = .func (.func 24) #[.agg #[.pointer (some ⟨B, 0, none⟩), .int .u64 (hI x), .int .u64 (lI x)]] #[] ∧ a.tmps.getD 17 undef = .pointer (some ⟨Dn, 0, none⟩) ∧ a.tmps.getD 18 undef = .pointer (some ⟨Dn + 1, 0, none⟩) ∧ a.tmps.getD 19 undef = .pointer (some ⟨T9, 0, none⟩) ∧ a.defers = (ls.map fun D => { target := .collected D, args := #[] }) ∧ Hid (t ≤ 3 ∧ ls.Nodup ∧ (∀ D ∈ ls, Dn + 1 < D ∧ W.heap[D]? = some (.deferred (some []))) ∧ Below W0.heap.size W0 W ∧ Cl1 W T9 (.int .i64 (t : Int)))) (fun a W => 3 - (intOf ((W.cell? (adOf (a.tmps.getD 19 undef))).getD undef)).toNat) ?_ ?_
        · exact ⟨0, [D9], T0, rfl, rfl, rfl, rfl, rfl, rfl, rfl, rfl, rfl, rfl, rfl, rfl, rfl, hidX ⟨by omega, List.nodup_cons.mpr ⟨by simp, List.nodup_nil⟩, fun D hD => by rw [List.mem_singleton] at hD; subst hD; exact ⟨hD0, HK0.out⟩, Below.refl _ _, HT0.out⟩⟩
        rintro ⟨tm, df⟩ W ⟨t, ls, T9, hs, h5, h6, h7, h8, h10, h12, h15, h16, h17, h18, h19, hdf, HL⟩
        dsimp only at hs h5 h6 h7 h8 h10 h12 h15 h16 h17 h18 h19 hdf
        obtain ⟨u, hu, htm⟩ := arr174 tm hs
        rw [← hu] at h5 h6 h7 h8 h10 h12 h15 h16 h17 h18 h19
        have HMu : Hid (∀ T' : Nat, 3 - (intOf ((W.cell? (adOf (tm.getD 19 undef))).getD undef)).toNat = 3 - t) := hidX (fun _ => by rw [← hu, h19]; simp [adOf, HL.out.2.2.2.2.1, intOf])
        rw [HMu.out 0]
        rw [htm, hdf, h5, h6, h7, h8, h10, h12, h15, h16, h17, h18, h19]
        clear hu htm hs hdf h5 h6 h7 h8 h10 h12 h15 h16 h17 h18 h19 HMu tm df
        have HDD : Hid (∀ X, Below W.heap.size W X → SQ8 w F G ((.slice ao l.length c)) ((.slice ao2 m.length c2)) x so B g cap wg wc L ws B2 g2 cap2 wg2 wc2 L2 ws2 X ∧ Cl1 X Dn (.func (.func 33) #[.agg #[.pointer (some ⟨B, 0, none⟩), .int .i64 0, .int .i64 1]] #[]) ∧ Cl1 X (Dn + 1) (.int .i64 ((N + 1 : Nat) : Int)) ∧ Cl1 X T9 (.int .i64 (t : Int)) ∧ Below w.heap.size w X) := hidX (fun X hb => by
          have h0 := keepb hb HL.out.2.2.2.1
          exact ⟨HQ0.out.below h0, HD0.out.below h0, HN0.out.below h0, HL.out.2.2.2.2.below hb, keepb h0 HB0.out⟩)
        obtain ⟨k9, -⟩ := HL.out.2.2.2.2
        by_cases ht : t = 3
        · subst ht
          have hd3 : decide ((3 : Int) < 3) = false := by decide
          clear HQ0 HD0 HN0 HT0 HK0 HB0
          go_wp2_with fail
          go_loopw [22] (fun i wr => ∃ k : Nat, k ≤ m.length ∧ k ≤ 20 ∧ i = .int .i64 k ∧ Hid (Below W.heap.size W wr)) (fun i _ => 20 - (intOf i).toNat)
          case atStart => exact ⟨0, by omega, by omega, rfl, hidX (Below.refl _ _)⟩
          case round =>
            obtain ⟨k, hk1, hk2, rfl, HS⟩ := hrel
            have u1 := at_block (HDD.out _ HS.out).1.lv.u 1 ((.slice ao2 m.length c2)) rfl
            clear k9
            by_cases hlt : (k : Int) < (m.length : Int) ∧ (k : Int) < 20
            · have hks : k < m.length := by omega
              have hj1 := hlt.1
              have hj2 := hlt.2
              have hj0 : 0 ≤ (k : Int) := by omega
              obtain ⟨ao9, c9, he, hrow⟩ := HU.out
              have he1 : ao2 = ao9 := by injection he
              subst he1
              rcases hrow with h | ⟨b, off, rfl, hrow⟩
              · rw [h] at hks; simp at hks
              have hmem := List.getElem_mem hks
              obtain ⟨i, i1, i2, i3⟩ := Hy.out.t.hasr hmem
              have HCx : Hid (∀ X, Below W.heap.size W X → X.cell? ⟨b, off + k * 4, none⟩ = some (.int .u64 (hI m[k].1.1)) ∧ X.cell? ⟨b, off + k * 4 + 1, none⟩ = some (.int .u64 (lI m[k].1.1)) ∧ X.cell? ⟨b, off + k * 4 + 2, none⟩ = some (.int .i64 m[k].1.2) ∧ X.cell? ⟨b, off + k * 4 + 3, none⟩ = some (.int .i64 m[k].2)) := hidX (fun X hb => rwr_cells (fun j u hj => keepc (HDD.out X hb).2.2.2.2 (hrow j u hj)) k hks)
              have HKF := hidX (fun w h => tfindR8_any Hy.out B2 g2 cap2 wg2 wc2 m[k] hmem i i1 i2 i3 w h)
              have KH := fun w h => thop_any B2 G g2 cap2 (.slice (some ⟨wg2, 0, none⟩) ws2.length wc2) L2 (i : Int) w h Hy.out.ok
              have hop : (ndAt L2 (i : Int)).hop = m[k].2 := by rw [nd8_at i1]; exact Hy.out.t.route hmem i1 i2 i3
              rw [hop] at KH
              have HKH := hidX KH
              have Hks := hidX hks
              have w10 : IntKind.i64.wrap ((k : Int) + 1) = ((k + 1 : Nat) : Int) := by rw [IntKind.wrap_i64]; push_cast; omega
              revert HCx HKF HKH
              clear KH
              generalize m[k].1.1 = rx
              generalize m[k].1.2 = rn
              generalize m[k].2 = rh
              intro HCx HKF HKH
              clear hmem hop i2 i3 hrow he hlt
              go_wp2_with fail
              clear u1
              refine qw_region (C := fun X => Below W.heap.size W X) (by kernel_rfl) (by kernel_rfl) (keepb (below_drewN (Below.refl _ _) 1) HS.out) ?_
              clear HS
              refine qw_run (v := .pointer (some ⟨B2, 0, none⟩)) (by rfl) ?_ ?_
              · (intro w1 hC; clear hC; go_simp; first | done | (simp; done) | (simp [*]; done) | omega | (simp; omega) | rfl)
              simp only [Act.put, List.setIfInBounds_toArray, List.set_cons_zero, List.set_cons_succ]
              refine qw_run (v := .pointer (some ⟨B2, 0, none⟩)) (by rfl) ?_ ?_
              · (intro w1 hC; clear hC; go_simp; first | done | (simp; done) | (simp [*]; done) | omega | (simp; omega) | rfl)
              simp only [Act.put, List.setIfInBounds_toArray, List.set_cons_zero, List.set_cons_succ]
              refine qw_run (v := .pointer (some ⟨w.heap.size + 1, 1, none⟩)) (by rfl) ?_ ?_
              · (intro w1 hC; clear hC; go_simp; first | done | (simp; done) | (simp [*]; done) | omega | (simp; omega) | rfl)
              simp only [Act.put, List.setIfInBounds_toArray, List.set_cons_zero, List.set_cons_succ]
              refine qw_run (v := .slice (some ⟨b, off, none⟩) m.length c2) (by rfl) ?_ ?_
              · (intro w1 hC; have f0 := at_block (HDD.out _ hC).1.lv.u 1 (.slice (some ⟨b, off, none⟩) m.length c2) rfl; clear hC; go_simp; first | done | (simp; done) | (simp [*]; done) | omega | (simp; omega) | rfl)
              simp only [Act.put, List.setIfInBounds_toArray, List.set_cons_zero, List.set_cons_succ]
              refine qw_run (v := .int .i64 (k : Int)) (by rfl) ?_ ?_
              · (intro w1 hC; clear hC; go_simp; first | done | (simp; done) | (simp [*]; done) | omega | (simp; omega) | rfl)
              simp only [Act.put, List.setIfInBounds_toArray, List.set_cons_zero, List.set_cons_succ]
              refine qw_run (v := .pointer (some ⟨b, off + k * 4, none⟩)) (by rfl) ?_ ?_
              · (intro w1 hC; clear hC; go_simp; first | done | (simp; done) | (simp [*]; done) | omega | (simp; omega) | rfl)
              simp only [Act.put, List.setIfInBounds_toArray, List.set_cons_zero, List.set_cons_succ]
              refine qw_run (v := .pointer (some ⟨b, off + k * 4, none⟩)) (by rfl) ?_ ?_
              · (intro w1 hC; clear hC; go_simp; first | done | (simp; done) | (simp [*]; done) | omega | (simp; omega) | rfl)
              simp only [Act.put, List.setIfInBounds_toArray, List.set_cons_zero, List.set_cons_succ]
              refine qw_run (v := .agg #[.int .u64 (hI rx), .int .u64 (lI rx), .int .i64 rn]) (by rfl) ?_ ?_
              · (intro w1 hC; have f0 := (HCx.out _ hC).1; have f1 := (HCx.out _ hC).2.1; have f2 := (HCx.out _ hC).2.2.1; clear hC; go_simp; first | done | (simp; done) | (simp [*]; done) | omega | (simp; omega) | rfl)
              simp only [Act.put, List.setIfInBounds_toArray, List.set_cons_zero, List.set_cons_succ]
              refine qw_call (v := .int .i64 (i : Int)) (f := 17) (args := #[.pointer (some ⟨B2, 0, none⟩), .agg #[.int .u64 (hI rx), .int .u64 (lI rx), .int .i64 rn]]) (by rfl) ?_ ?_ ?_
              · (intro w1 hC; clear hC; go_simp)
              · exact fun w1 hC => (HKF.out w1 (HDD.out _ hC).1.ty).mono fun e w' ⟨he, hb⟩ => ⟨he, keepb hb hC⟩
              simp only [Act.put, List.setIfInBounds_toArray, List.set_cons_zero, List.set_cons_succ]
              refine qw_call (v := .int .i64 rh) (f := 16) (args := #[.pointer (some ⟨B2, 0, none⟩), .int .i64 (i : Int)]) (by rfl) ?_ ?_ ?_
              · (intro w1 hC; clear hC; go_simp)
              · exact fun w1 hC => (HKH.out w1 (HDD.out _ hC).1.ty.tn).mono fun e w' ⟨he, hb⟩ => ⟨he, keepb hb hC⟩
              simp only [Act.put, List.setIfInBounds_toArray, List.set_cons_zero, List.set_cons_succ]
              refine qw_run (v := .pointer (some ⟨w.heap.size + 1, 1, none⟩)) (by rfl) ?_ ?_
              · (intro w1 hC; clear hC; go_simp; first | done | (simp; done) | (simp [*]; done) | omega | (simp; omega) | rfl)
              simp only [Act.put, List.setIfInBounds_toArray, List.set_cons_zero, List.set_cons_succ]
              refine qw_run (v := .slice (some ⟨b, off, none⟩) m.length c2) (by rfl) ?_ ?_
              · (intro w1 hC; have f0 := at_block (HDD.out _ hC).1.lv.u 1 (.slice (some ⟨b, off, none⟩) m.length c2) rfl; clear hC; go_simp; first | done | (simp; done) | (simp [*]; done) | omega | (simp; omega) | rfl)
              simp only [Act.put, List.setIfInBounds_toArray, List.set_cons_zero, List.set_cons_succ]
              refine qw_run (v := .int .i64 (k : Int)) (by rfl) ?_ ?_
              · (intro w1 hC; clear hC; go_simp; first | done | (simp; done) | (simp [*]; done) | omega | (simp; omega) | rfl)
              simp only [Act.put, List.setIfInBounds_toArray, List.set_cons_zero, List.set_cons_succ]
              refine qw_run (v := .pointer (some ⟨b, off + k * 4, none⟩)) (by rfl) ?_ ?_
              · (intro w1 hC; clear hC; go_simp; first | done | (simp; done) | (simp [*]; done) | omega | (simp; omega) | rfl)
              simp only [Act.put, List.setIfInBounds_toArray, List.set_cons_zero, List.set_cons_succ]
              refine qw_run (v := .pointer (some ⟨b, off + k * 4 + 3, none⟩)) (by rfl) ?_ ?_
              · (intro w1 hC; clear hC; go_simp; first | done | (simp; done) | (simp [*]; done) | omega | (simp; omega) | rfl)
              simp only [Act.put, List.setIfInBounds_toArray, List.set_cons_zero, List.set_cons_succ]
              refine qw_run (v := .int .i64 rh) (by rfl) ?_ ?_
              · (intro w1 hC; have f0 := (HCx.out _ hC).2.2.2; clear hC; go_simp; first | done | (simp; done) | (simp [*]; done) | omega | (simp; omega) | rfl)
              simp only [Act.put, List.setIfInBounds_toArray, List.set_cons_zero, List.set_cons_succ]
              refine qw_run (v := .bool false) (by rfl) ?_ ?_
              · (intro w1 hC; clear hC; go_simp; first | done | (simp; done) | (simp [*]; done) | omega | (simp; omega) | rfl)
              simp only [Act.put, List.setIfInBounds_toArray, List.set_cons_zero, List.set_cons_succ]
              refine qw_nil ?_
              intro X hC
              have HC := hidX hC
              clear hC HCx HKF HKH
              go_wp2
              go_roundw
              case rel => exact ⟨k + 1, by have := Hks.out; omega, by omega, rfl, HC⟩
              case measure => simp [intOf]; omega
            · have hC0 := HDD.out _ HS.out
              have y0 := at_block hC0.1.lv.x 0 (.int .u64 (hI x)) rfl
              have y1 := at_block hC0.1.lv.x 1 (.int .u64 (lI x)) rfl
              have KLx := HKf.out wr hC0.1.tx
              clear hC0
              have fin : (k < m.length ∧ k = 20) ∨ ¬ k < m.length := by omega
              clear hlt hk1 hk2
              rcases fin with ⟨d1, rfl⟩ | d1
              all_goals
                go_wp2_with fail
                refine KLx.mono ?_
                rintro e w9 ⟨rfl, hb⟩
                have HS9 := hidX (keepb hb HS.out)
                have hC9 := HDD.out _ HS9.out
                have hr : Cl1 w9 (w.heap.size + 4) (.bool false) := ⟨at_block hC9.1.lv.r 0 _ rfl, fr_blk hC9.1.lv.r⟩
                have HU9 := hidX (hr.set (.bool true))
                have HBu := hidX (hC9.2.2.2.2.setCell (p := ⟨w.heap.size + 4, 0, none⟩) (by simp) (.bool true))
                obtain ⟨r0, rf⟩ := hr
                clear hC9 hb KLx y0 y1 u1 HS
                go_wp2
                refine leaves_marks (B := w.heap.size + 5) ls _ HL.out.2.1 (fun D hD => ?_) (fun W' hb => ?_)
                · obtain ⟨z1, z2⟩ := HL.out.2.2.1 D hD
                  refine ⟨by omega, (setB _ (by omega)).trans ?_⟩
                  exact (HS9.out.block D (blk_lt z2)).trans z2
                · have hc : W'.cell? ⟨w.heap.size + 4, 0, none⟩ = some (.bool true) := (World.cell?_of_block (a := ⟨w.heap.size + 4, 0, none⟩) (hb.block (w.heap.size + 4) (by omega))).trans HU9.out.1
                  refine ⟨.bool true, ?_, rfl, HBu.out.trans (hb.mono (by omega))⟩
                  simp [results, Try.results4, go_sem, hc]
        · have ht1 : t < 3 := by have := HL.out.1; omega
          have ht2 : (t : Int) < 3 := by omega
          have ht3 : IntKind.i64.wrap ((t : Int) + 1) = ((t + 1 : Nat) : Int) := by rw [IntKind.wrap_i64]; push_cast; omega
          have q5 := bl1 W (.cells #[.int .i64 0] 3)
          have HKl := hidX (cl1_new W W.heap.size (.int .i64 0) 3 rfl)
          have HBk := hidX q5
          have hWk : W.heap.size < (W.alloc (.cells #[.int .i64 0] 3)).heap.size := by simp
          have hDW : Dn + 1 < W.heap.size := (HDD.out W (Below.refl _ _)).2.2.1.lt
          have hTW : T9 < W.heap.size := (HDD.out W (Below.refl _ _)).2.2.2.1.lt
          clear ht q5 HQ0 HD0 HN0 HT0 HK0 HB0
          go_wp2_with fail
          clear k9
          revert HKl HBk hWk
          generalize W.alloc (.cells #[.int .i64 0] 3) = Wk
          intro HKl HBk hWk
          have HEnd : Hid (∀ (D : Nat) (U U' : World), Wk.heap.size ≤ D → U.heap[D]? = some (.deferred (some [])) → Below W.heap.size W U → Below U.heap.size U U' → t + 1 ≤ 3 ∧ (D :: ls).Nodup ∧ (∀ E ∈ D :: ls, Dn + 1 < E ∧ U'.heap[E]? = some (.deferred (some []))) ∧ Below W0.heap.size W0 U') := hidX (fun D U U' h1 h2 h3 h4 => by
            obtain ⟨_, e2, e3, e4, _⟩ := HL.out
            have hlt : ∀ E ∈ ls, E < W.heap.size := fun E hE => (Array.getElem?_eq_some_iff.1 (e3 E hE).2).1
            refine ⟨by omega, List.nodup_cons.mpr ⟨fun hm => by have := hlt D hm; omega, e2⟩, fun E hE => ?_, keepb h4 (keepb h3 e4)⟩
            have key : U.heap[E]? = some (.deferred (some [])) ∧ Dn + 1 < E := by
              rcases List.mem_cons.mp hE with rfl | hE
              · exact ⟨h2, by omega⟩
              · exact ⟨(h3.block E (hlt E hE)).trans (e3 E hE).2, (e3 E hE).1⟩
            exact ⟨key.2, (h4.block E (blk_lt key.1)).trans key.1⟩)
          clear HL
          refine (wpIn_wide (n := 9)).1 ?_
          refine rangeYA 9 (by decide) (gf := 24) (ba := #[.agg #[.pointer (some ⟨B, 0, none⟩), .int .u64 (hI x), .int .u64 (lI x)]]) (lb := #[]) rfl (enters_of Try.func24 (by kernel_rfl) rfl)
            (way_each (9 - 1) (N + 1) (fun z => z = B ∨ z = g) (Wk.heap.size + 2) B F g cap (.slice (some ⟨wg, 0, none⟩) ws.length wc) L x (fun _ => Hwt.out) Wk (HDD.out Wk HBk.out).1.tx.tn (.inl (.inl rfl)) (.inl (.inr rfl)) Hx.out.ok (by have := Hx.out.len; omega)) (Nat.le_refl _) (fun A => KW.refl _ _ _) (fun h k => h.trans k) (fun V o o' h1 h2 => kw_put (by rintro (q | q) <;> omega) (by omega) V o o' h1 h2) (Below.refl _ _) (fun _ => rfl)
            (fun pre U => Cl1 U W.heap.size (.int .i64 (pre.length : Int)) ∧ Below W.heap.size W U)
            (fun c pre U => (c = .exit 6 ∧ t = 0) ∧ Below W.heap.size W U)
            (OwnFrom.and (Own.from (fun s A B row hs hg hr => hs.kept hg hr) _) (ownFrom_below (Nat.le_refl _) (by omega)))
            (fun c => OwnFrom.and (Own.from (fun s A B row hs hg hr => hs) _) (ownFrom_below (Nat.le_refl _) (by omega)))
            ⟨HKl.out, HBk.out⟩
            ?AX3 ?assign3 ?body3 ?done3 ?stop3
          case assign3 =>
            intro lo y V K hK
            unfold encI
            simp only [List.zip_toArray, List.zip_cons_cons, List.zip_nil_left, List.zip_nil_right, List.foldl_toArray, List.foldl_cons, List.foldl_nil, List.setIfInBounds_toArray, List.set_cons_zero, List.set_cons_succ, Array.zip]
            have HKK := hidX hK
            clear hK
            gi_wp2
            exact HKK.out
          case body3 =>
            rintro lo pre y U hl ⟨r, hr⟩ ⟨hi1, hi2⟩ hlt
            have hlen := hlt.length_le
            rw [Hln.out, List.length_append, List.length_singleton] at hlen
            have hN9 := HN9.out
            have hdd := HDD.out U hi2
            obtain ⟨d0, -⟩ := hdd.2.1
            obtain ⟨k0, kf⟩ := hi1
            have hWU : W.heap.size < U.heap.size := cell_in k0
            have hDU : Dn < U.heap.size := by omega
            have hDne : ¬ Dn = W.heap.size := by omega
            have wn : IntKind.i64.wrap ((pre.length : Int) + 1) = ((pre ++ [y]).length : Int) := by
              rw [IntKind.wrap_i64]; simp; omega
            revert wn
            generalize hn2 : ((pre ++ [y]).length : Int) = n2
            intro wn
            have Hn2 := hidX hn2
            have q7 := bl1 (U.setCell ⟨W.heap.size, 0, none⟩ (.int .i64 n2)) (.cells #[.int .i64 0] 3)
            have su : (U.setCell ⟨W.heap.size, 0, none⟩ (.int .i64 n2)).heap.size = U.heap.size := by simp
            have hkv : KV W.heap.size U (U.setCell ⟨W.heap.size, 0, none⟩ (.int .i64 n2)) := (KV.refl W.heap.size U).set W.heap.size 0 _ (.inl rfl)
            have HKV := hidX (hkv.below q7)
            have HB7 := hidX (keepb q7 (hi2.setCell (p := ⟨W.heap.size, 0, none⟩) (Nat.le_refl _) (.int .i64 n2)))
            have HK7 := hidX ((Cl1.set ⟨k0, kf⟩ (.int .i64 n2)).below q7)
            have HM7 := hidX (cl1_new (U.setCell ⟨W.heap.size, 0, none⟩ (.int .i64 n2)) U.heap.size (.int .i64 0) 3 su.symm)
            have hrl : lo < U.heap.size := (Array.getElem?_eq_some_iff.1 hr).1
            have HR7 : Hid (((U.setCell ⟨W.heap.size, 0, none⟩ (.int .i64 n2)).alloc (.cells #[.int .i64 0] 3)).heap[lo]? = some (.loop r)) := hidX ((q7.block lo (by omega)).trans ((setB _ (by omega)).trans hr))
            have hs7 : U.heap.size < ((U.setCell ⟨W.heap.size, 0, none⟩ (.int .i64 n2)).alloc (.cells #[.int .i64 0] 3)).heap.size := by simp
            clear hn2 hi2 hdd q7 hkv hlen hN9 hr hlt
            gi_wp2_with fail
            clear d0 k0 kf su
            revert HKV HB7 HK7 HM7 HR7 hs7
            generalize (U.setCell ⟨W.heap.size, 0, none⟩ (.int .i64 n2)).alloc (.cells #[.int .i64 0] 3) = U2
            intro HKV HB7 HK7 HM7 HR7 hs7
            have HFin : Hid (∀ X, KV W.heap.size U X → KeepsFrom Wk.heap.size U X ∧ KW (fun z => z = B ∨ z = g) (Wk.heap.size + 2) U X) := hidX (fun X h => ⟨h.keeps (by omega), h.kw (by rintro (q | q) <;> omega) (by omega)⟩)
            refine rangeYNA (9 - 1 - 1) (by decide) HR7.out (gf := 33) (ba := #[.agg #[.pointer (some ⟨B, 0, none⟩), .int .i64 0, .int .i64 1]]) (lb := #[]) rfl (enters_of Try.func33 (by kernel_rfl) rfl)
              (below_each (9 - 1 - 1 - 1) (fun z => z = B ∨ z = g) (U2.heap.size + 1) B F g cap (.slice (some ⟨wg, 0, none⟩) ws.length wc) L 0 1 (by decide) U2 (HDD.out U2 HB7.out).1.tx.tn (.inl (.inl rfl)) (.inl (.inr rfl)) Hx.out.ok (by have := Hx.out.len; omega)) (Nat.le_refl _) (fun A => KW.refl _ _ _) (fun h k => h.trans k) (fun V o o' h1 h2 => kw_put (by rintro (q | q) <;> omega) (by omega) V o o' h1 h2) (Below.refl _ _) (fun _ => rfl)
              (fun pre2 X => ((pre2 = [] ∧ Cl1 X W.heap.size (.int .i64 n2) ∧ Cl1 X U.heap.size (.int .i64 0)) ∧ KV W.heap.size U X) ∧ Below W.heap.size W X)
              (fun c pre2 X => ((c = .exit 8 ∧ Cl1 X W.heap.size (.int .i64 n2) ∧ Cl1 X U.heap.size (.int .i64 1)) ∧ KV W.heap.size U X) ∧ Below W.heap.size W X)
              (OwnFrom.and (OwnFrom.and (Own.from (fun s A B row hs hg hr => ⟨hs.1, hs.2.1.kept hg hr, hs.2.2.kept hg hr⟩) _) (KV.own (by omega))) (ownFrom_below (Nat.le_refl _) (by omega)))
              (fun c => OwnFrom.and (OwnFrom.and (Own.from (fun s A B row hs hg hr => ⟨hs.1, hs.2.1.kept hg hr, hs.2.2.kept hg hr⟩) _) (KV.own (by omega))) (ownFrom_below (Nat.le_refl _) (by omega)))
              ⟨⟨⟨rfl, HK7.out, HM7.out⟩, HKV.out⟩, HB7.out⟩
              ?AX4 ?assign4 ?body4 ?done4 ?stop4
            case assign4 =>
              intro lo2 y2 V K hK
              unfold encI
              simp only [List.zip_toArray, List.zip_cons_cons, List.zip_nil_left, List.zip_nil_right, List.foldl_toArray, List.foldl_cons, List.foldl_nil, List.setIfInBounds_toArray, List.set_cons_zero, List.set_cons_succ, Array.zip]
              have HKK := hidX hK
              clear hK
              gi_wp2
              exact HKK.out
            case body4 =>
              rintro lo2 pre2 y2 X hl2 - ⟨⟨⟨-, hk, hm⟩, hv⟩, hb⟩ hlt2
              have HG := hidX (show KeepsFrom U2.heap.size X (X.setCell ⟨U.heap.size, 0, none⟩ (.int .i64 1)) ∧ KW (fun z => z = B ∨ z = g) (U2.heap.size + 1) X (X.setCell ⟨U.heap.size, 0, none⟩ (.int .i64 1)) ∧ ((Cl1 (X.setCell ⟨U.heap.size, 0, none⟩ (.int .i64 1)) W.heap.size (.int .i64 n2) ∧ Cl1 (X.setCell ⟨U.heap.size, 0, none⟩ (.int .i64 1)) U.heap.size (.int .i64 1)) ∧ KV W.heap.size U (X.setCell ⟨U.heap.size, 0, none⟩ (.int .i64 1))) ∧ Below W.heap.size W (X.setCell ⟨U.heap.size, 0, none⟩ (.int .i64 1)) from
                ⟨⟨by simp, fun z o h1 h2 h3 => (setB _ (by omega)).trans h2⟩, kw_set (by rintro (q | q) <;> omega) (by omega) X _, ⟨⟨hk.heap (setB _ (by omega)), hm.set _⟩, hv.set U.heap.size 0 _ (.inr (Nat.le_refl _))⟩, hb.setCell (p := ⟨U.heap.size, 0, none⟩) (by show W.heap.size ≤ U.heap.size; omega) _⟩)
              obtain ⟨m0, mf⟩ := hm
              clear hk hv hb hlt2
              gi_wp2
              exact ⟨HG.out.1, HG.out.2.1, ⟨⟨rfl, HG.out.2.2.1.1⟩, HG.out.2.2.1.2⟩, HG.out.2.2.2⟩
            case done4 =>
              rintro xs X hS ⟨⟨⟨-, hk, hm⟩, hv⟩, hb⟩
              have hdd := HDD.out X hb
              have HG := hidX (HFin.out X hv)
              have HK := hidX hk
              have HB := hidX hb
              obtain ⟨m0, -⟩ := hm
              obtain ⟨k0, -⟩ := hk
              obtain ⟨t9, -⟩ := hdd.2.2.2.1
              have s0 := at_block hdd.1.lv.s 0 (.int .i64 so) rfl
              clear hdd hv hb HDD
              by_cases ht0 : t = 0
              · subst ht0
                by_cases hks : n2 = so
                · subst hks
                  gi_wp2
                  exact ⟨HG.out.1, HG.out.2, by first | exact ⟨rfl, rfl⟩ | rfl | simp, HB.out⟩
                · have hd1 : (n2 == so) = false := by simpa using hks
                  clear hks
                  gi_wp2
                  exact ⟨HG.out.1, HG.out.2, by rw [Hn2.out]; exact HK.out, HB.out⟩
              · have hd0 : ((t : Int) == 0) = false := by simpa using ht0
                clear ht0
                gi_wp2
                exact ⟨HG.out.1, HG.out.2, by rw [Hn2.out]; exact HK.out, HB.out⟩
            case stop4 =>
              rintro c pre2 X hpre ⟨⟨⟨rfl, hk, hm⟩, hv⟩, hb⟩
              have hdd := HDD.out X hb
              have HG := hidX (HFin.out X hv)
              have HK := hidX hk
              have HB := hidX hb
              obtain ⟨m0, -⟩ := hm
              obtain ⟨k0, -⟩ := hk
              obtain ⟨t9, -⟩ := hdd.2.2.2.1
              have s0 := at_block hdd.1.lv.s 0 (.int .i64 so) rfl
              clear hdd hv hb HDD
              by_cases ht0 : t = 0
              · subst ht0
                by_cases hks : n2 = so
                · subst hks
                  gi_wp2
                  exact ⟨HG.out.1, HG.out.2, by first | exact ⟨rfl, rfl⟩ | rfl | simp, HB.out⟩
                · have hd1 : (n2 == so) = false := by simpa using hks
                  clear hks
                  gi_wp2
                  exact ⟨HG.out.1, HG.out.2, by rw [Hn2.out]; exact HK.out, HB.out⟩
              · have hd0 : ((t : Int) == 0) = false := by simpa using ht0
                clear ht0
                gi_wp2
                exact ⟨HG.out.1, HG.out.2, by rw [Hn2.out]; exact HK.out, HB.out⟩
          case done3 =>
            rintro D xs U hD rfl ⟨hi1, hi2⟩ hKD
            rw [Hln.out] at hi1
            have hdd := HDD.out U hi2
            obtain ⟨k0, -⟩ := hi1
            obtain ⟨n0, -⟩ := hdd.2.2.1
            obtain ⟨t9, -⟩ := hdd.2.2.2.1
            have q8 := bl1 U (.cells #[.int .i64 ((t + 1 : Nat) : Int)] 3)
            have HE := hidX (HEnd.out D U _ hD hKD hi2 q8)
            have HT := hidX (cl1_new U U.heap.size (.int .i64 ((t + 1 : Nat) : Int)) 3 rfl)
            clear HDD HEnd hi2 hKD hdd q8
            refine wl_nil8 (P := Try.prog) (ops := #[]) ?_
            by_cases ht0 : 0 < t
            · go_wp2
              refine ⟨⟨t + 1, D :: ls, U.heap.size, rfl, rfl, rfl, rfl, rfl, rfl, rfl, rfl, rfl, rfl, rfl, rfl, rfl, hidX ⟨HE.out.1, HE.out.2.1, HE.out.2.2.1, HE.out.2.2.2, HT.out⟩⟩, ?_⟩
              simp [adOf, intOf, HT.out.1]
              try omega
            · obtain rfl : t = 0 := by omega
              go_wp2
              refine ⟨⟨1, D :: ls, U.heap.size, rfl, rfl, rfl, rfl, rfl, rfl, rfl, rfl, rfl, rfl, rfl, rfl, rfl, hidX ⟨HE.out.1, HE.out.2.1, HE.out.2.2.1, HE.out.2.2.2, HT.out⟩⟩, ?_⟩
              simp [adOf, intOf, HT.out.1]
              try omega
          case stop3 =>
            rintro D c pre U hD hpre ⟨⟨rfl, ht0⟩, hi2⟩ hKD
            subst ht0
            have hdd := HDD.out U hi2
            obtain ⟨t9, -⟩ := hdd.2.2.2.1
            have q8 := bl1 U (.cells #[.int .i64 1] 3)
            have HE := hidX (HEnd.out D U _ hD hKD hi2 q8)
            have HT := hidX (cl1_new U U.heap.size (.int .i64 1) 3 rfl)
            clear HDD HEnd hi2 hKD hdd q8
            refine (wpIn_wide (n := 9)).2 ?_
            go_wp2
            refine ⟨⟨1, D :: ls, U.heap.size, rfl, rfl, rfl, rfl, rfl, rfl, rfl, rfl, rfl, rfl, rfl, rfl, rfl, hidX ⟨HE.out.1, HE.out.2.1, HE.out.2.2.1, HE.out.2.2.2, HT.out⟩⟩, ?_⟩
            simp [adOf, intOf, HT.out.1]
            try omega
end Go.Proofs.Ytofpbommhklooaa
