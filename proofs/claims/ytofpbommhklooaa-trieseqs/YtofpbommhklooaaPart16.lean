/-
  Part 16 of the proof: 1 texts, one behind the other.
-/
import Derived.Test.YtofpbommhklooaaPart7
import Derived.Test.YtofpbommhklooaaPart13
import Derived.Test.YtofpbommhklooaaPart15
import Derived.Laws.MakeOwn
/-
  The growing of a tree: what grow tells.
-/
namespace Go.Proofs.Ytofpbommhklooaa
open Go.RowKit Go.Shelf
set_option linter.unusedSimpArgs false
set_option linter.unusedVariables false
attribute [local go_sem] Oper.semAt_some

theorem ghSame2 {x y : Array Value} {d1 d2 s : Nat} (hd : d1 < d2) (h : (x.toList.eraseIdx d2).eraseIdx d1 = (y.toList.eraseIdx d2).eraseIdx d1) (h1 : s ≠ d1) (h2 : s ≠ d2) : x[s]? = y[s]? := by
  have e : ∀ s', s' ≠ d1 → (x.toList.eraseIdx d2)[s']? = (y.toList.eraseIdx d2)[s']? := fun s' hs => erase_get _ _ d1 s' h hs
  by_cases c : s < d2
  · have := e s h1
    rw [List.getElem?_eraseIdx_of_lt c, List.getElem?_eraseIdx_of_lt c] at this
    simpa using this
  · have := e (s - 1) (by omega)
    rw [List.getElem?_eraseIdx_of_ge (by omega), List.getElem?_eraseIdx_of_ge (by omega), show s - 1 + 1 = s by omega] at this
    simpa using this
/-- Room is taken for a row. -/
theorem mk_ex {P : Program} {t e : TypeId} {z : Value} {s b : Nat} (ht : P.underlying t = some (.slice e)) (hi : (P.info? e).map (fun i => (i.zero, i.size, i.bytes)) = some (some z, s, b)) (c : Nat) (hb : b * c ≤ 281474976710656) (hc : c ≤ 281474976710656) :
    ∃ C : Array Value, ∀ w : World, (Instr.makeSlice t (.int .i64 0) (.int .i64 (c : Int))).run P w = .ok (.slice (some ⟨w.heap.size, 0, none⟩) 0 c) (w.alloc (.cells C e)) ∧ ∀ base, base ≤ w.heap.size → (w.alloc (.cells C e)).ownsRow base e s (.slice (some ⟨w.heap.size, 0, none⟩) 0 c) 0 [] := by
  obtain ⟨i, h1, h2, h3, h4⟩ := info_of hi
  refine ⟨madeCells z.cells (c * i.size), fun w => ⟨?_, fun base hbase => ?_⟩⟩
  · have hb2 : ((b * c : Nat) : Int) ≤ 281474976710656 := by omega
    rw [Int.natCast_mul] at hb2
    have := run_make (P := P) w t e i z ht h1 h2 .i64 .i64 0 c (Int.le_refl _) (by omega) (by rw [h4]; exact hb2) (by omega)
    simpa using this
  · rw [← h3]
    exact World.ownsRow_made w _ c hbase (by unfold maxLen; omega) (size_madeCells _ _)
/-- What is there of a tree's rows and of the tree, as far as they are made. -/
structure Rgw (V0 : World) (base : Nat) (F : Int) (sz n1 : Nat) (b5 b10 b11 b12 b13 : Bool) (g : Nat × Nat × Nat) (V : World) : Prop where
  bel : Below V0.heap.size V0 V
  a : b5 = true → V0.heap.size ≤ g.1 ∧ g.1 < V.heap.size ∧ V.ownsRow base 77 6 (.slice (some ⟨g.1, 0, none⟩) 0 sz) 0 []
  b : b10 = true → V0.heap.size ≤ g.2.1 ∧ g.2.1 < V.heap.size ∧ V.ownsRow base 27 2 (.slice (some ⟨g.2.1, 0, none⟩) 0 n1) 0 []
  ab : b5 = true → b10 = true → g.1 ≠ g.2.1
  d : b11 = true → b5 = true ∧ b10 = true
  c : b12 = true → (b5 = true ∧ b10 = true) ∧ V0.heap.size ≤ g.2.2 ∧ g.2.2 < V.heap.size ∧ g.2.2 ≠ g.1 ∧ g.2.2 ≠ g.2.1 ∧ V.heap[g.2.2]? = some (.cells #[.int .i64 F, .slice (some ⟨g.1, 0, none⟩) 0 sz, .slice (some ⟨g.2.1, 0, none⟩) 0 n1] 83)
  e : b13 = true → b12 = true
section
variable {V0 V W : World} {base : Nat} {F : Int} {sz n1 : Nat} {b5 b10 b11 b12 b13 : Bool} {g : Nat × Nat × Nat}
theorem Rgw.below (k : Rgw V0 base F sz n1 b5 b10 b11 b12 b13 g V) (hb : Below V.heap.size V W) : Rgw V0 base F sz n1 b5 b10 b11 b12 b13 g W :=
  ⟨keepb hb k.bel, fun h => ⟨(k.a h).1, Nat.lt_of_lt_of_le (k.a h).2.1 hb.size, own_blk (k.a h).2.2 (fun z e => hb.block z ((k.a h).2.2.lt z e).2)⟩, fun h => ⟨(k.b h).1, Nat.lt_of_lt_of_le (k.b h).2.1 hb.size, own_blk (k.b h).2.2 (fun z e => hb.block z ((k.b h).2.2.lt z e).2)⟩, k.ab, k.d, fun h => by
    obtain ⟨q1, q2, q3, q4, q5, q6⟩ := k.c h
    exact ⟨q1, q2, Nat.lt_of_lt_of_le q3 hb.size, q4, q5, by rw [hb.block _ q3]; exact q6⟩, k.e⟩
theorem Rgw.mkA (k : Rgw V0 base F sz n1 false b10 b11 b12 b13 g V) (hb : Below V.heap.size V W) (hs : V.heap.size < W.heap.size) (ho : W.ownsRow base 77 6 (.slice (some ⟨V.heap.size, 0, none⟩) 0 sz) 0 []) : Rgw V0 base F sz n1 true b10 b11 b12 b13 (V.heap.size, g.2) W := by
  have k2 := k.below hb
  refine ⟨k2.bel, fun _ => ⟨k.bel.size, hs, ho⟩, k2.b, fun _ h => ?_, fun h => ?_, fun h => ?_, k2.e⟩
  · have := (k.b h).2.1
    show V.heap.size ≠ g.2.1
    omega
  · have := (k.d h).1; cases this
  · have := (k.c h).1.1; cases this
theorem Rgw.mkB (k : Rgw V0 base F sz n1 b5 false b11 b12 b13 g V) (hb : Below V.heap.size V W) (hs : V.heap.size < W.heap.size) (ho : W.ownsRow base 27 2 (.slice (some ⟨V.heap.size, 0, none⟩) 0 n1) 0 []) : Rgw V0 base F sz n1 b5 true b11 b12 b13 (g.1, V.heap.size, g.2.2) W := by
  have k2 := k.below hb
  refine ⟨k2.bel, k2.a, fun _ => ⟨k.bel.size, hs, ho⟩, fun h _ => ?_, fun h => ?_, fun h => ?_, k2.e⟩
  · have := (k.a h).2.1
    show g.1 ≠ V.heap.size
    omega
  · have := (k.d h).2; cases this
  · have := (k.c h).1.2; cases this
theorem Rgw.bld (k : Rgw V0 base F sz n1 b5 b10 b11 b12 b13 g V) (h5 : b5 = true) (h10 : b10 = true) : Rgw V0 base F sz n1 b5 b10 true b12 b13 g V := ⟨k.bel, k.a, k.b, k.ab, fun _ => ⟨h5, h10⟩, k.c, k.e⟩
theorem Rgw.asg (k : Rgw V0 base F sz n1 b5 b10 b11 b12 b13 g V) (h12 : b12 = true) : Rgw V0 base F sz n1 b5 b10 b11 b12 true g V := ⟨k.bel, k.a, k.b, k.ab, k.d, k.c, fun _ => h12⟩
theorem Rgw.box (k : Rgw V0 base F sz n1 b5 b10 b11 false b13 g V) (h5 : b5 = true) (h10 : b10 = true) : Rgw V0 base F sz n1 b5 b10 b11 true b13 (g.1, g.2.1, V.heap.size) (V.alloc (.cells #[.int .i64 F, .slice (some ⟨g.1, 0, none⟩) 0 sz, .slice (some ⟨g.2.1, 0, none⟩) 0 n1] 83)) := by
  have k2 := k.below (bl1 V (.cells #[.int .i64 F, .slice (some ⟨g.1, 0, none⟩) 0 sz, .slice (some ⟨g.2.1, 0, none⟩) 0 n1] 83))
  refine ⟨k2.bel, k2.a, k2.b, k2.ab, k2.d, fun _ => ⟨⟨h5, h10⟩, k.bel.size, by simp, ?_, ?_, ?_⟩, fun _ => rfl⟩
  · have := (k.a h5).2.1
    show V.heap.size ≠ g.1
    omega
  · have := (k.b h10).2.1
    show V.heap.size ≠ g.2.1
    omega
  · show (V.heap.push _)[V.heap.size]? = _
    simp
end
theorem fr_blk {W : World} {z j : Nat} {cs : Array Value} {T : TypeId} (h : W.heap[z]? = some (.cells cs T)) : W.frozen? ⟨z, j, none⟩ = false := by simp [World.frozen?, h]
theorem set_blk {W : World} {P o : Nat} {cs : Array Value} {T : TypeId} (h : W.heap[P]? = some (.cells cs T)) (v : Value) : (W.setCell ⟨P, o, none⟩ v).heap[P]? = some (.cells (cs.setIfInBounds o v) T) := by
  simp [World.setCell, Array.getElem?_modify, h]
theorem gw_start {V1 V2 : World} {base : Nat} {F : Int} {sz n1 c : Nat} {gN gW gB : Nat} {C : Array Value} (k : Rgw V1 base F sz n1 true true true true true (gN, gW, gB) V2) (hbase : base ≤ V1.heap.size) (ho : (V2.alloc (.cells C 3)).ownsRow base 3 1 (.slice (some ⟨V2.heap.size, 0, none⟩) 0 c) 0 []) :
    GwV ((V2.alloc (.cells C 3)).alloc (.cells #[.pointer (some ⟨gB, 0, none⟩), .slice (some ⟨V2.heap.size, 0, none⟩) 0 c] 99)) base (V2.heap.size + 1) gB F [] [] [] (.slice (some ⟨gN, 0, none⟩) 0 sz) (.slice (some ⟨gW, 0, none⟩) 0 n1) (.slice (some ⟨V2.heap.size, 0, none⟩) 0 c) := by
  obtain ⟨a1, a2, a3⟩ := k.a rfl
  obtain ⟨b1, b2, b3⟩ := k.b rfl
  obtain ⟨-, c1, c2, c3, c4, c5⟩ := k.c rfl
  have ab := k.ab rfl rfl
  dsimp only at a1 a2 a3 b1 b2 b3 c1 c2 c3 c4 c5 ab
  have s1 : (V2.alloc (.cells C 3)).heap.size = V2.heap.size + 1 := by simp
  have hs : V1.heap.size ≤ V2.heap.size := k.bel.size
  have q1 := bl1 V2 (.cells C 3)
  have q2 := bl1 (V2.alloc (.cells C 3)) (.cells #[.pointer (some ⟨gB, 0, none⟩), .slice (some ⟨V2.heap.size, 0, none⟩) 0 c] 99)
  have q := keepb q2 q1
  have hB := q.block gB c2
  have nG : ((V2.alloc (.cells C 3)).alloc (.cells #[.pointer (some ⟨gB, 0, none⟩), .slice (some ⟨V2.heap.size, 0, none⟩) 0 c] 99)).heap[V2.heap.size + 1]? = some (.cells #[.pointer (some ⟨gB, 0, none⟩), .slice (some ⟨V2.heap.size, 0, none⟩) 0 c] 99) := by
    rw [← s1]
    exact Array.getElem?_push_size
  have nB := hB.trans c5
  refine ⟨at_block nG 0 _ rfl, at_block nG 1 _ rfl, ?_, at_block nB 0 _ rfl, at_block nB 1 _ rfl, at_block nB 2 _ rfl, ?_, ?_, own_blk a3 (fun z e => q.block z (a3.lt z e).2), own_blk b3 (fun z e => q.block z (b3.lt z e).2), own_blk ho (fun z e => q2.block z (ho.lt z e).2), by omega, ?_, ?_, ?_, ?_, ?_, ?_, ?_, ?_, ?_, by omega, by omega⟩
  · exact fr_blk nG
  · exact fr_blk nB
  · exact fr_blk nB
  all_goals first | (intro z e e2; simp [Value.ownBlock] at e e2; done) | (intro z e e2; simp [Value.ownBlock] at e e2; omega) | (intro e; simp [Value.ownBlock] at e; done) | (intro e; simp [Value.ownBlock] at e; omega)
theorem B3.mine {w W : World} {base G B : Nat} {vn vw vy : Value} (k : B3 w W base G B vn vw vy) {z : Nat} {o : Obj} (hz : w.heap[z]? = some o) (hG : z ≠ G) (hB : z ≠ B) (hn : vn.ownBlock ≠ some z) (hw : vw.ownBlock ≠ some z) (hy : vy.ownBlock ≠ some z) : W.heap[z]? = some o := by
  have hl : z < w.heap.size := by
    apply Classical.byContradiction; intro q
    rw [Array.getElem?_eq_none (by omega)] at hz; cases hz
  rw [k.2.2 z hl hG hB hn hw hy]; exact hz
theorem blk_lt {w : World} {z : Nat} {o : Obj} (hz : w.heap[z]? = some o) : z < w.heap.size := by
  apply Classical.byContradiction; intro q
  rw [Array.getElem?_eq_none (by omega)] at hz; cases hz
theorem inv_mem {ws : List (BitVec 128)} {L : List Nd} {y : List Nat} (v : InvG ws L y) : ∀ i ∈ y, i < L.length := by
  intro i hi
  obtain ⟨k, hk, rfl⟩ := List.mem_iff_getElem.mp hi
  have := (v.way k hk).1
  unfold wy at this
  rwa [List.getD_eq_getElem?_getD, List.getElem?_eq_getElem hk] at this
/-- A prefix's block is written over. -/
theorem set3_blk {W : World} {P : Nat} {a b c : Value} {T : TypeId} (h : W.heap[P]? = some (.cells #[a, b, c] T)) (x y z : Value) : (((W.setCell ⟨P, 0, none⟩ x).setCell ⟨P, 1, none⟩ y).setCell ⟨P, 2, none⟩ z).heap[P]? = some (.cells #[x, y, z] T) := by
  have h1 := set_blk (o := 0) h x
  have h2 := set_blk (o := 1) h1 y
  have h3 := set_blk (o := 2) h2 z
  simpa using h3
theorem gw_word {A w4 : World} {base G B g cap : Nat} {F : Int} {vn vw vy : Value} (k : GwV A base G B F [] [] [] vn vw vy) (ho : w4.ownsRow base 27 2 (.slice (some ⟨g, 0, none⟩) 1 cap) 1 [.int .u64 0, .int .u64 0]) (hg : A.grownBy w4 vw.ownBlock) (hat : vw.ownBlock = some g ∨ g = A.heap.size) :
    (GwV (w4.setCell ⟨B, 2, none⟩ (.slice (some ⟨g, 0, none⟩) 1 cap)) base G B F [] [0#128] [] vn (.slice (some ⟨g, 0, none⟩) 1 cap) vy ∧ Below base A (w4.setCell ⟨B, 2, none⟩ (.slice (some ⟨g, 0, none⟩) 1 cap))) ∧ w4.cell? ⟨B, 2, none⟩ = some vw ∧ w4.frozen? ⟨B, 2, none⟩ = false := by
  have e := hg.block B k.ltB (fun q => k.wB q.symm)
  have bl : Below base A w4 := ((Below.refl A.heap.size A).mono k.base_le).grown hg k.base_le (fun z q => (k.ow.lt z q).1)
  refine ⟨⟨k.wrd (x := 0#128) hg ?_ ?_, bl.setCell (p := ⟨B, 2, none⟩) k.bB _⟩, by rw [cellB e]; exact k.t2, by rw [frozB e]; exact k.f2⟩
  · simp only [List.nil_append, rowWd, hI_zero, lI_zero]
    exact ho
  · rcases hat with h | h
    · exact .inl h
    · exact .inr (by omega)
theorem gw_set {W : World} {base G B P : Nat} {F : Int} {L : List Nd} {ws : List (BitVec 128)} {y : List Nat} {vn vw vy : Value} {cs : Array Value} {T : TypeId} (k : GwV W base G B F L ws y vn vw vy) (hP : W.heap[P]? = some (.cells cs T)) (hG : P ≠ G) (hB : P ≠ B) (h1 : T ≠ 77) (h2 : T ≠ 27) (h3 : T ≠ 3) (o : Nat) (u : Value) : GwV (W.setCell ⟨P, o, none⟩ u) base G B F L ws y vn vw vy :=
  k.keep (setB u (fun e => hG e.symm)) (setB u (fun e => hB e.symm)) (fun z e => setB u (fun q => own_not k.on hP (fun q => h1 q.symm) (by rw [e, q]))) (fun z e => setB u (fun q => own_not k.ow hP (fun q => h2 q.symm) (by rw [e, q]))) (fun z e => setB u (fun q => own_not k.oy hP (fun q => h3 q.symm) (by rw [e, q])))
theorem Gs.next {F : Int} (hF : F ≤ 128) {l : List Rte} (hr : ∀ r ∈ l, RtH F r) (hO : OrdR l) (hl : l.length ≤ 1048576) {k : Nat} (hk : k < l.length) {last : BitVec 128 × Int} {s : GrS} (g : Gs (l.take k) last s) (hl0 : 0 ≤ last.2) (hl1 : last.2 ≤ 128) (hlc : cutW last.1 last.2 = last.1) (hj : ∀ (j : Nat) (hj : j < l.length), j + 1 = k → last = l[j].1) : Gs (l.take (k + 1)) l[k].1 (grT s last l[k]) := by
  rw [List.take_succ_eq_append_getElem hk]
  refine g.step hF (hr _ (List.getElem_mem hk)) hl0 hl1 hlc ?_ (by rw [List.length_take]; omega)
  by_cases c : k = 0
  · left; rw [c, List.take_zero]
  · right
    have := hj (k - 1) (by omega) (by omega)
    rw [this]
    exact hO (k - 1) k hk (by omega)
def grO : GrS := ([⟨0, 0, 0, 0, 0, 0⟩], [0#128], [0])
def Px (x : BitVec 128) (n : Int) : Obj := .cells #[.int .u64 (hI x), .int .u64 (lI x), .int .i64 n] 45
def Rx8 (x : BitVec 128) (n h : Int) : Obj := .cells #[.int .u64 (hI x), .int .u64 (lI x), .int .i64 n, .int .i64 h] 47
theorem Try.infoW9 : (Try.prog.info? 27).map (fun i => (i.zero, i.size, i.bytes)) = some (some (.agg #[.int .u64 0, .int .u64 0]), 2, 16) := by kernel_rfl
set_option maxRecDepth 100000 in
set_option maxHeartbeats 16000000 in
theorem grow_any (F : Int) (v : Value) (l : List Rte) (w : World) (hv : RwR w v l) (hF0 : 0 ≤ F) (hF : F ≤ 128) (hl : l.length ≤ 1048576) (hr : ∀ r ∈ l, RtH F r) (hO : OrdR l) :
    Calls Try.prog 30 #[.agg #[.int .i64 F, v]] w fun e w' => ∃ (G B : Nat) (last : BitVec 128 × Int) (s : GrS) (vn vw vy : Value), e = .returned (.pointer (some ⟨B, 0, none⟩)) ∧ s = grwG l (0#128, 0) grO ∧ Gs l last s ∧ GwV w' (w.heap.size + 1) G B F (bkW 0 s.1 s.2.2).1 s.2.1 (bkW 0 s.1 s.2.2).2 vn vw vy ∧ Below w.heap.size w w' := by
  have hr2 : ∀ r ∈ l, 0 ≤ r.1.2 ∧ r.1.2 ≤ 128 := fun r h => ⟨(hr r h).1.1, Int.le_trans (hr r h).1.2.1 hF⟩
  have hsz := sz_bd l 1 (0#128, 0) (Int.le_refl 0) hr2
  obtain ⟨sz, hszN⟩ : ∃ sz : Nat, szG 1 (0#128, 0) l = (sz : Int) := ⟨(szG 1 (0#128, 0) l).toNat, by omega⟩
  have KS := fun W hW => size_any v l W hW hl hr2
  rw [hszN] at KS hsz
  obtain ⟨C5, hmk5⟩ := mk_ex (P := Try.prog) (t := 80) Try.underlying80 Try.infoN8 sz (by omega) (by omega)
  obtain ⟨C10, hmk10⟩ := mk_ex (P := Try.prog) (t := 81) Try.underlying81 Try.infoW9 (1 + l.length) (by omega) (by omega)
  obtain ⟨FN, hFN⟩ : ∃ FN : Nat, F = (FN : Int) := ⟨F.toNat, by omega⟩
  obtain ⟨C25, hmk25⟩ := mk_ex (P := Try.prog) (t := 37) Try.underlying37 Try.infoI8 (1 + FN) (by omega) (by omega)
  rw [show ((1 + l.length : Nat) : Int) = 1 + (l.length : Int) by omega] at hmk10
  rw [show ((1 + FN : Nat) : Int) = 1 + F by omega] at hmk25
  clear hFN
  have q0 := bl1 w (.cells #[.int .i64 F, v] 24)
  have HT := hidX (att_new w w.heap.size F v 24 rfl)
  have HV0 := hidX (hv.below q0)
  have HB0 := hidX q0
  obtain ⟨ao, c, rfl, hv⟩ := hv
  have HL := hidX (And.intro hr hO)
  have HV := hidX hv
  have HBl : Hid (w.heap.size + 1 ≤ (w.alloc (.cells #[.int .i64 F, .slice ao l.length c] 24)).heap.size) := hidX (by simp)
  clear hr hO hr2 hv q0
  go_enter Try.func30, Try.ntmps30
  go_wp2_with fail
  revert HT HV0 HB0 HBl
  generalize w.alloc (.cells #[.int .i64 F, .slice ao l.length c] 24) = V1
  intro HT HV0 HB0 HBl
  have HC : Hid (∀ X, Below V1.heap.size V1 X → X.cell? ⟨w.heap.size, 0, none⟩ = some (.int .i64 F) ∧ X.cell? ⟨w.heap.size, 1, none⟩ = some (.slice ao l.length c) ∧ RwR X (.slice ao l.length c) l) := hidX (fun X hb => ⟨keepc hb HT.out.1, keepc hb HT.out.2, HV0.out.below hb⟩)
  refine gh_region (γ := Nat × Nat × Nat) (qpOk 14 14 (by decide) (fun N => by kernel_rfl) (by kernel_rfl) (by kernel_rfl) (by kernel_rfl) (by kernel_rfl)) (by kernel_rfl) (by kernel_rfl) [some 8, some 9, some 10, some 11, some 12, some 13, some 14, some 15, some 16, some 17, some 18, some 19, some 20, some 3] (fun g => [.pointer (some ⟨w.heap.size, 0, none⟩), .int .i64 F, .pointer (some ⟨w.heap.size, 1, none⟩), .slice ao l.length c, .int .i64 (sz : Int), .slice (some ⟨g.1, 0, none⟩) 0 sz, .pointer (some ⟨w.heap.size, 1, none⟩), .slice ao l.length c, .int .i64 (l.length : Int), .int .i64 (1 + (l.length : Int)), .slice (some ⟨g.2.1, 0, none⟩) 0 (1 + l.length), .agg #[.int .i64 F, .slice (some ⟨g.1, 0, none⟩) 0 sz, .slice (some ⟨g.2.1, 0, none⟩) 0 (1 + l.length)], .pointer (some ⟨g.2.2, 0, none⟩), .pointer (some ⟨g.2.2, 0, none⟩)]) (by kernel_rfl) (by simp) (fun lp g V => Rgw V1 (w.heap.size + 1) F sz (1 + l.length) (lp.getD 5 false) (lp.getD 10 false) (lp.getD 11 false) (lp.getD 12 false) (lp.getD 13 false) g V) (0, 0, 0) ⟨below_drewN (Below.refl _ _) 1, fun h => (by simp at h), fun h => (by simp at h), fun h => (by simp at h), fun h => (by simp at h), fun h => (by simp at h), fun h => (by simp at h)⟩ ?step ?fin
  case step =>
    intro q o lp g w' a' ho hsz hun hdep hR hS K Q' hK
    have hfl : ∀ j, j ≠ q → (lp.setIfInBounds q true).getD j false = lp.getD j false := fun j hj => by rw [Array.getD_eq_getD_getElem?, Array.getD_eq_getD_getElem?, Array.getElem?_setIfInBounds_ne (by omega)]
    have hq : q < 14 := (List.getElem?_eq_some_iff.mp ho).1
    obtain ⟨t0, t1, hv⟩ := HC.out w' hR.bel
    match q, ho, hun, hdep, hK, hfl, hq with
    | 0, ho, hun, hdep, hK, hfl, _ =>
      obtain rfl := Option.some.inj ho
      have o1 : a'.tmps[1]? = some (.pointer (some ⟨w.heap.size, 0, none⟩)) := (hS.old8 1 (by simp)).trans rfl
      have hK' := hK g w' (fun _ _ _ _ _ _ => rfl) (by rw [hfl 5 (by decide), hfl 10 (by decide), hfl 11 (by decide), hfl 12 (by decide), hfl 13 (by decide)]; exact hR) (.pointer (some ⟨w.heap.size, 0, none⟩)) (by simp only [valO, Option.bind_some]; simp only [putAll, Act.put, List.setIfInBounds_toArray, List.set_cons_zero, List.set_cons_succ]; rfl)
      clear hS hdep hR
      refine gh_quiet8 (v := .pointer (some ⟨w.heap.size, 0, none⟩)) ?_ ?_
      · (simp only [execOp, Act.eval, o1]; go_simp; first | done | (simp; done) | (simp [*]; done) | omega | (simp; omega) | (simp [*]; omega) | (rw [IntKind.wrap_i64]; omega))
      · exact hK'
    | 1, ho, hun, hdep, hK, hfl, _ =>
      obtain rfl := Option.some.inj ho
      have d0 : lp.getD 0 false = true := hdep { on := 0, ground := .data } (by simp) rfl
      have e8 : a'.tmps[8]? = some (.pointer (some ⟨w.heap.size, 0, none⟩)) := (hS.don 0 _ 8 rfl d0 rfl).trans (by simp only [putAll, Act.put, List.setIfInBounds_toArray, List.set_cons_zero, List.set_cons_succ]; rfl)
      have hK' := hK g w' (fun _ _ _ _ _ _ => rfl) (by rw [hfl 5 (by decide), hfl 10 (by decide), hfl 11 (by decide), hfl 12 (by decide), hfl 13 (by decide)]; exact hR) (.int .i64 F) (by simp only [valO, Option.bind_some]; simp only [putAll, Act.put, List.setIfInBounds_toArray, List.set_cons_zero, List.set_cons_succ]; rfl)
      clear hS hdep hR
      refine gh_quiet8 (v := .int .i64 F) ?_ ?_
      · (simp only [execOp, Act.eval, e8]; go_simp; first | done | (simp; done) | (simp [*]; done) | omega | (simp; omega) | (simp [*]; omega) | (rw [IntKind.wrap_i64]; omega))
      · exact hK'
    | 2, ho, hun, hdep, hK, hfl, _ =>
      obtain rfl := Option.some.inj ho
      have o1 : a'.tmps[1]? = some (.pointer (some ⟨w.heap.size, 0, none⟩)) := (hS.old8 1 (by simp)).trans rfl
      have hK' := hK g w' (fun _ _ _ _ _ _ => rfl) (by rw [hfl 5 (by decide), hfl 10 (by decide), hfl 11 (by decide), hfl 12 (by decide), hfl 13 (by decide)]; exact hR) (.pointer (some ⟨w.heap.size, 1, none⟩)) (by simp only [valO, Option.bind_some]; simp only [putAll, Act.put, List.setIfInBounds_toArray, List.set_cons_zero, List.set_cons_succ]; rfl)
      clear hS hdep hR
      refine gh_quiet8 (v := .pointer (some ⟨w.heap.size, 1, none⟩)) ?_ ?_
      · (simp only [execOp, Act.eval, o1]; go_simp; first | done | (simp; done) | (simp [*]; done) | omega | (simp; omega) | (simp [*]; omega) | (rw [IntKind.wrap_i64]; omega))
      · exact hK'
    | 3, ho, hun, hdep, hK, hfl, _ =>
      obtain rfl := Option.some.inj ho
      have d2 : lp.getD 2 false = true := hdep { on := 2, ground := .data } (by simp) rfl
      have e10 : a'.tmps[10]? = some (.pointer (some ⟨w.heap.size, 1, none⟩)) := (hS.don 2 _ 10 rfl d2 rfl).trans (by simp only [putAll, Act.put, List.setIfInBounds_toArray, List.set_cons_zero, List.set_cons_succ]; rfl)
      have hK' := hK g w' (fun _ _ _ _ _ _ => rfl) (by rw [hfl 5 (by decide), hfl 10 (by decide), hfl 11 (by decide), hfl 12 (by decide), hfl 13 (by decide)]; exact hR) (.slice ao l.length c) (by simp only [valO, Option.bind_some]; simp only [putAll, Act.put, List.setIfInBounds_toArray, List.set_cons_zero, List.set_cons_succ]; rfl)
      clear hS hdep hR
      refine gh_quiet8 (v := .slice ao l.length c) ?_ ?_
      · (simp only [execOp, Act.eval, e10]; go_simp; first | done | (simp; done) | (simp [*]; done) | omega | (simp; omega) | (simp [*]; omega) | (rw [IntKind.wrap_i64]; omega))
      · exact hK'
    | 4, ho, hun, hdep, hK, hfl, _ =>
      obtain rfl := Option.some.inj ho
      have d3 : lp.getD 3 false = true := hdep { on := 3, ground := .data } (by simp) rfl
      have e11 : a'.tmps[11]? = some (.slice ao l.length c) := (hS.don 3 _ 11 rfl d3 rfl).trans (by simp only [putAll, Act.put, List.setIfInBounds_toArray, List.set_cons_zero, List.set_cons_succ]; rfl)
      have KE := KS w' hv
      clear hdep
      unfold Oper.wp
      simp only [execOp, Act.eval]
      simp [go_sem, e11, Oper.upon]
      refine KE.mono ?_
      rintro e W2 ⟨rfl, hb2⟩
      exact hK g W2 (fun _ _ _ _ _ _ => rfl) (by rw [hfl 5 (by decide), hfl 10 (by decide), hfl 11 (by decide), hfl 12 (by decide), hfl 13 (by decide)]; exact hR.below hb2) _ (by simp only [valO, Option.bind_some]; simp only [putAll, Act.put, List.setIfInBounds_toArray, List.set_cons_zero, List.set_cons_succ]; rfl)
    | 5, ho, hun, hdep, hK, hfl, _ =>
      obtain rfl := Option.some.inj ho
      have d4 : lp.getD 4 false = true := hdep { on := 4, ground := .data } (by simp) rfl
      have e12 : a'.tmps[12]? = some (.int .i64 (sz : Int)) := (hS.don 4 _ 12 rfl d4 rfl).trans (by simp only [putAll, Act.put, List.setIfInBounds_toArray, List.set_cons_zero, List.set_cons_succ]; rfl)
      rw [hun] at hR
      have hK' := hK (w'.heap.size, g.2) (w'.alloc (.cells C5 77)) (fun k ok s hk hl hd => ghSame2 (d1 := 13) (d2 := 19) (s := s) (by decide) (by simp only [putAll, Act.put, List.setIfInBounds_toArray, List.set_cons_zero, List.set_cons_succ]; rfl) (by rintro rfl; have := dstG_of (by kernel_rfl) k 5 ok _ 13 hk rfl hd rfl; subst this; rw [hun] at hl; cases hl) (by rintro rfl; have := dstG_of (by kernel_rfl) k 11 ok _ 19 hk rfl hd rfl; subst this; have := (hR.d hl).1; cases this)) (by rw [hfl 10 (by decide), hfl 11 (by decide), hfl 12 (by decide), hfl 13 (by decide), getD_set_same (by rw [hsz]; decide)]; exact hR.mkA (bl1 _ _) (by simp) ((hmk5 w').2 _ (Nat.le_trans HBl.out hR.bel.size))) (.slice (some ⟨w'.heap.size, 0, none⟩) 0 sz) (by simp only [valO, Option.bind_some]; simp only [putAll, Act.put, List.setIfInBounds_toArray, List.set_cons_zero, List.set_cons_succ]; rfl)
      have hM := (hmk5 w').1
      clear hS hdep hR
      unfold Oper.wp
      simp only [execOp, Act.eval]
      simp [go_sem, e12, Oper.upon, hM]
      exact hK'
    | 6, ho, hun, hdep, hK, hfl, _ =>
      obtain rfl := Option.some.inj ho
      have o1 : a'.tmps[1]? = some (.pointer (some ⟨w.heap.size, 0, none⟩)) := (hS.old8 1 (by simp)).trans rfl
      have hK' := hK g w' (fun _ _ _ _ _ _ => rfl) (by rw [hfl 5 (by decide), hfl 10 (by decide), hfl 11 (by decide), hfl 12 (by decide), hfl 13 (by decide)]; exact hR) (.pointer (some ⟨w.heap.size, 1, none⟩)) (by simp only [valO, Option.bind_some]; simp only [putAll, Act.put, List.setIfInBounds_toArray, List.set_cons_zero, List.set_cons_succ]; rfl)
      clear hS hdep hR
      refine gh_quiet8 (v := .pointer (some ⟨w.heap.size, 1, none⟩)) ?_ ?_
      · (simp only [execOp, Act.eval, o1]; go_simp; first | done | (simp; done) | (simp [*]; done) | omega | (simp; omega) | (simp [*]; omega) | (rw [IntKind.wrap_i64]; omega))
      · exact hK'
    | 7, ho, hun, hdep, hK, hfl, _ =>
      obtain rfl := Option.some.inj ho
      have d6 : lp.getD 6 false = true := hdep { on := 6, ground := .data } (by simp) rfl
      have e14 : a'.tmps[14]? = some (.pointer (some ⟨w.heap.size, 1, none⟩)) := (hS.don 6 _ 14 rfl d6 rfl).trans (by simp only [putAll, Act.put, List.setIfInBounds_toArray, List.set_cons_zero, List.set_cons_succ]; rfl)
      have hK' := hK g w' (fun _ _ _ _ _ _ => rfl) (by rw [hfl 5 (by decide), hfl 10 (by decide), hfl 11 (by decide), hfl 12 (by decide), hfl 13 (by decide)]; exact hR) (.slice ao l.length c) (by simp only [valO, Option.bind_some]; simp only [putAll, Act.put, List.setIfInBounds_toArray, List.set_cons_zero, List.set_cons_succ]; rfl)
      clear hS hdep hR
      refine gh_quiet8 (v := .slice ao l.length c) ?_ ?_
      · (simp only [execOp, Act.eval, e14]; go_simp; first | done | (simp; done) | (simp [*]; done) | omega | (simp; omega) | (simp [*]; omega) | (rw [IntKind.wrap_i64]; omega))
      · exact hK'
    | 8, ho, hun, hdep, hK, hfl, _ =>
      obtain rfl := Option.some.inj ho
      have d7 : lp.getD 7 false = true := hdep { on := 7, ground := .data } (by simp) rfl
      have e15 : a'.tmps[15]? = some (.slice ao l.length c) := (hS.don 7 _ 15 rfl d7 rfl).trans (by simp only [putAll, Act.put, List.setIfInBounds_toArray, List.set_cons_zero, List.set_cons_succ]; rfl)
      have hK' := hK g w' (fun _ _ _ _ _ _ => rfl) (by rw [hfl 5 (by decide), hfl 10 (by decide), hfl 11 (by decide), hfl 12 (by decide), hfl 13 (by decide)]; exact hR) (.int .i64 (l.length : Int)) (by simp only [valO, Option.bind_some]; simp only [putAll, Act.put, List.setIfInBounds_toArray, List.set_cons_zero, List.set_cons_succ]; rfl)
      clear hS hdep hR
      refine gh_quiet8 (v := .int .i64 (l.length : Int)) ?_ ?_
      · (simp only [execOp, Act.eval, e15]; go_simp; first | done | (simp; done) | (simp [*]; done) | omega | (simp; omega) | (simp [*]; omega) | (rw [IntKind.wrap_i64]; omega))
      · exact hK'
    | 9, ho, hun, hdep, hK, hfl, _ =>
      obtain rfl := Option.some.inj ho
      have d8 : lp.getD 8 false = true := hdep { on := 8, ground := .data } (by simp) rfl
      have e16 : a'.tmps[16]? = some (.int .i64 (l.length : Int)) := (hS.don 8 _ 16 rfl d8 rfl).trans (by simp only [putAll, Act.put, List.setIfInBounds_toArray, List.set_cons_zero, List.set_cons_succ]; rfl)
      have hK' := hK g w' (fun _ _ _ _ _ _ => rfl) (by rw [hfl 5 (by decide), hfl 10 (by decide), hfl 11 (by decide), hfl 12 (by decide), hfl 13 (by decide)]; exact hR) (.int .i64 (1 + (l.length : Int))) (by simp only [valO, Option.bind_some]; simp only [putAll, Act.put, List.setIfInBounds_toArray, List.set_cons_zero, List.set_cons_succ]; rfl)
      clear hS hdep hR
      refine gh_quiet8 (v := .int .i64 (1 + (l.length : Int))) ?_ ?_
      · (simp only [execOp, Act.eval, e16]; go_simp; first | done | (simp; done) | (simp [*]; done) | omega | (simp; omega) | (simp [*]; omega) | (rw [IntKind.wrap_i64]; omega))
      · exact hK'
    | 10, ho, hun, hdep, hK, hfl, _ =>
      obtain rfl := Option.some.inj ho
      have d9 : lp.getD 9 false = true := hdep { on := 9, ground := .data } (by simp) rfl
      have e17 : a'.tmps[17]? = some (.int .i64 (1 + (l.length : Int))) := (hS.don 9 _ 17 rfl d9 rfl).trans (by simp only [putAll, Act.put, List.setIfInBounds_toArray, List.set_cons_zero, List.set_cons_succ]; rfl)
      rw [hun] at hR
      have hK' := hK (g.1, w'.heap.size, g.2.2) (w'.alloc (.cells C10 27)) (fun k ok s hk hl hd => ghSame2 (d1 := 18) (d2 := 19) (s := s) (by decide) (by simp only [putAll, Act.put, List.setIfInBounds_toArray, List.set_cons_zero, List.set_cons_succ]; rfl) (by rintro rfl; have := dstG_of (by kernel_rfl) k 10 ok _ 18 hk rfl hd rfl; subst this; rw [hun] at hl; cases hl) (by rintro rfl; have := dstG_of (by kernel_rfl) k 11 ok _ 19 hk rfl hd rfl; subst this; have := (hR.d hl).2; cases this)) (by rw [hfl 5 (by decide), hfl 11 (by decide), hfl 12 (by decide), hfl 13 (by decide), getD_set_same (by rw [hsz]; decide)]; exact hR.mkB (bl1 _ _) (by simp) ((hmk10 w').2 _ (Nat.le_trans HBl.out hR.bel.size))) (.slice (some ⟨w'.heap.size, 0, none⟩) 0 (1 + l.length)) (by simp only [valO, Option.bind_some]; simp only [putAll, Act.put, List.setIfInBounds_toArray, List.set_cons_zero, List.set_cons_succ]; rfl)
      have hM := (hmk10 w').1
      clear hS hdep hR
      unfold Oper.wp
      simp only [execOp, Act.eval]
      simp [go_sem, e17, Oper.upon, hM]
      exact hK'
    | 11, ho, hun, hdep, hK, hfl, _ =>
      obtain rfl := Option.some.inj ho
      have d1 : lp.getD 1 false = true := hdep { on := 1, ground := .data } (by simp) rfl
      have e9 : a'.tmps[9]? = some (.int .i64 F) := (hS.don 1 _ 9 rfl d1 rfl).trans (by simp only [putAll, Act.put, List.setIfInBounds_toArray, List.set_cons_zero, List.set_cons_succ]; rfl)
      have d5 : lp.getD 5 false = true := hdep { on := 5, ground := .data } (by simp) rfl
      have e13 : a'.tmps[13]? = some (.slice (some ⟨g.1, 0, none⟩) 0 sz) := (hS.don 5 _ 13 rfl d5 rfl).trans (by simp only [putAll, Act.put, List.setIfInBounds_toArray, List.set_cons_zero, List.set_cons_succ]; rfl)
      have d10 : lp.getD 10 false = true := hdep { on := 10, ground := .data } (by simp) rfl
      have e18 : a'.tmps[18]? = some (.slice (some ⟨g.2.1, 0, none⟩) 0 (1 + l.length)) := (hS.don 10 _ 18 rfl d10 rfl).trans (by simp only [putAll, Act.put, List.setIfInBounds_toArray, List.set_cons_zero, List.set_cons_succ]; rfl)
      have hK' := hK g w' (fun _ _ _ _ _ _ => rfl) (by rw [hfl 5 (by decide), hfl 10 (by decide), hfl 12 (by decide), hfl 13 (by decide), getD_set_same (by rw [hsz]; decide)]; exact hR.bld d5 d10) (.agg #[.int .i64 F, .slice (some ⟨g.1, 0, none⟩) 0 sz, .slice (some ⟨g.2.1, 0, none⟩) 0 (1 + l.length)]) (by simp only [valO, Option.bind_some]; simp only [putAll, Act.put, List.setIfInBounds_toArray, List.set_cons_zero, List.set_cons_succ]; rfl)
      clear hS hdep hR
      refine gh_quiet8 (v := .agg #[.int .i64 F, .slice (some ⟨g.1, 0, none⟩) 0 sz, .slice (some ⟨g.2.1, 0, none⟩) 0 (1 + l.length)]) ?_ ?_
      · (simp only [execOp, Act.eval, e9, e13, e18]; go_simp; first | done | (simp; done) | (simp [*]; done) | rfl)
      · exact hK'
    | 12, ho, hun, hdep, hK, hfl, _ =>
      obtain rfl := Option.some.inj ho
      have d11 : lp.getD 11 false = true := hdep { on := 11, ground := .data } (by simp) rfl
      have e19 : a'.tmps[19]? = some (.agg #[.int .i64 F, .slice (some ⟨g.1, 0, none⟩) 0 sz, .slice (some ⟨g.2.1, 0, none⟩) 0 (1 + l.length)]) := (hS.don 11 _ 19 rfl d11 rfl).trans (by simp only [putAll, Act.put, List.setIfInBounds_toArray, List.set_cons_zero, List.set_cons_succ]; rfl)
      have d5 := (hR.d d11).1
      have d10 := (hR.d d11).2
      rw [hun] at hR
      have hK' := hK (g.1, g.2.1, w'.heap.size) (w'.alloc (.cells #[.int .i64 F, .slice (some ⟨g.1, 0, none⟩) 0 sz, .slice (some ⟨g.2.1, 0, none⟩) 0 (1 + l.length)] 83)) (fun k ok s hk hl hd => ghSame2 (d1 := 3) (d2 := 20) (s := s) (by decide) (by simp only [putAll, Act.put, List.setIfInBounds_toArray, List.set_cons_zero, List.set_cons_succ]; rfl) (by rintro rfl; have := dstG_of (by kernel_rfl) k 13 ok _ 3 hk rfl hd rfl; subst this; have := hR.e hl; cases this) (by rintro rfl; have := dstG_of (by kernel_rfl) k 12 ok _ 20 hk rfl hd rfl; subst this; rw [hun] at hl; cases hl)) (by rw [hfl 5 (by decide), hfl 10 (by decide), hfl 11 (by decide), hfl 13 (by decide), getD_set_same (by rw [hsz]; decide)]; exact hR.box d5 d10) (.pointer (some ⟨w'.heap.size, 0, none⟩)) (by simp only [valO, Option.bind_some]; simp only [putAll, Act.put, List.setIfInBounds_toArray, List.set_cons_zero, List.set_cons_succ]; rfl)
      clear hS hdep hR
      unfold Oper.wp
      simp only [execOp, Act.eval, e19]
      go_simp
      exact hK'
    | 13, ho, hun, hdep, hK, hfl, _ =>
      obtain rfl := Option.some.inj ho
      have d12 : lp.getD 12 false = true := hdep { on := 12, ground := .data } (by simp) rfl
      have e20 : a'.tmps[20]? = some (.pointer (some ⟨g.2.2, 0, none⟩)) := (hS.don 12 _ 20 rfl d12 rfl).trans (by simp only [putAll, Act.put, List.setIfInBounds_toArray, List.set_cons_zero, List.set_cons_succ]; rfl)
      have hK' := hK g w' (fun _ _ _ _ _ _ => rfl) (by rw [hfl 5 (by decide), hfl 10 (by decide), hfl 11 (by decide), hfl 12 (by decide), getD_set_same (by rw [hsz]; decide)]; exact hR.asg d12) (.pointer (some ⟨g.2.2, 0, none⟩)) (by simp only [valO, Option.bind_some]; simp only [putAll, Act.put, List.setIfInBounds_toArray, List.set_cons_zero, List.set_cons_succ]; rfl)
      clear hS hdep hR
      refine gh_quiet8 (v := .pointer (some ⟨g.2.2, 0, none⟩)) ?_ ?_
      · (simp only [execOp, Act.eval, e20]; go_simp; first | done | (simp; done) | (simp [*]; done) | rfl)
      · exact hK'
    | n + 14, ho, hun, hdep, hK, hfl, hq => exact absurd hq (by omega)
  case fin =>
    intro g V2 hR
    have hR : Rgw V1 (w.heap.size + 1) F sz (1 + l.length) true true true true true g V2 := by simpa using hR
    obtain ⟨gN, gW, gB⟩ := g
    have HRgw := hidX hR
    simp only [putAll, Act.put, List.setIfInBounds_toArray, List.set_cons_zero, List.set_cons_succ]
    clear hR
    refine wl_nil8 (P := Try.prog) (ops := #[]) ?_
    have HK0 := hidX (gw_start HRgw.out HBl.out ((hmk25 V2).2 _ (Nat.le_trans HBl.out HRgw.out.bel.size)))
    obtain ⟨t0, t1, -⟩ := HC.out V2 HRgw.out.bel
    obtain ⟨-, -, hgB2, -, -, hgB5⟩ := HRgw.out.c rfl
    dsimp only at hgB2 hgB5
    have b2 := at_block hgB5 2 (.slice (some ⟨gW, 0, none⟩) 0 (1 + l.length)) rfl
    have hmk : ∀ w : World, (Instr.makeSlice 37 (.int .i64 0) (.int .i64 (1 + F))).run Try.prog w = .ok (.slice (some ⟨w.heap.size, 0, none⟩) 0 (1 + FN)) (w.alloc (.cells C25 3)) := fun w => (hmk25 w).1
    have w1f : IntKind.i64.wrap (1 + F) = 1 + F := by rw [IntKind.wrap_i64]; omega
    obtain ⟨i0, hi, hz0, hz1, hz2⟩ := info_of Try.infoW9
    have h63 : 0 + 1 ≤ maxLen := by unfold maxLen; omega
    have h47 : (0 + 1) * 16 ≤ 140737488355328 := by omega
    have HVB : Hid (Below (w.heap.size + 1) V1 V2) := hidX (HRgw.out.bel.mono HBl.out)
    have hVs := Nat.le_trans HBl.out HRgw.out.bel.size
    have hgW := (HRgw.out.b rfl).2.1
    dsimp only at hgW
    have qa := bl1 V2 (.cells C25 3)
    have qb := bl1 (V2.alloc (.cells C25 3)) (.cells #[.pointer (some ⟨gB, 0, none⟩), .slice (some ⟨V2.heap.size, 0, none⟩) 0 (1 + FN)] 99)
    have qc := bl1 ((V2.alloc (.cells C25 3)).alloc (.cells #[.pointer (some ⟨gB, 0, none⟩), .slice (some ⟨V2.heap.size, 0, none⟩) 0 (1 + FN)] 99)) (.cells #[.int .u64 0, .int .u64 0] 27)
    have HVC := hidX (HVB.out.trans ((keepb qc (keepb qb qa)).mono hVs))
    have HK1 := hidX (HK0.out.below qc)
    clear hmk25 hmk5 hmk10 KS HRgw HC hgB5 HVB qa qb qc
    go_wp2_with (first | (
        at_builtin
        refine wpList_append_lies _ rfl _ _ 81 rfl (w.heap.size + 1) 27 i0 (.agg #[.int .u64 0, .int .u64 0]) 2 16 Try.underlying81 hi hz0 hz1 hz2 rfl (by decide) _ _ _ rfl HK1.out.ow ⟨V2.heap.size + 1 + 1, 0, none⟩ 1 1 [.int .u64 0, .int .u64 0] rfl rfl (news2 (by constructor <;> simp [go_sem])) (by intro u hu; simp at hu; subst hu; rfl) (by decide) h63 h47 (by simp; omega) _ rfl ?_
        intro g4 cap4 w4 hown4 hgrow hat hlt4
        obtain ⟨HK2, u2, uf⟩ := gw_word HK1.out hown4 hgrow hat
        have HK3 := hidX (And.intro HK2.1 (HVC.out.trans HK2.2))
        clear hgrow hat hown4 hlt4 h63 h47 HK2))
    clear u2 uf HK0 HK1 HVC
    revert HK3
    generalize w4.setCell ⟨gB, 2, none⟩ (.slice (some ⟨g4, 0, none⟩) 1 cap4) = W5
    intro HK3
    refine (lay_any (w.heap.size + 1) (V2.heap.size + 1) gB F [] [0#128] [] _ _ _ W5 HK3.out.1 (by simp) (by simp) (by simp) (by simp)).mono ?_
    rintro e w6 ⟨rfl, ⟨vn6, vy6, k6, -, -⟩, b6⟩
    have HK6 : Hid (GwV w6 (w.heap.size + 1) (V2.heap.size + 1) gB F [⟨0, 0, 0, 0, 0, 0⟩] [0#128] [0] vn6 (.slice (some ⟨g4, 0, none⟩) 1 cap4) vy6) := hidX k6
    have HB6 := hidX (HK3.out.2.trans b6.1)
    have t1' : w6.cell? ⟨w.heap.size, 1, none⟩ = some (.slice ao l.length c) := by
      rw [cellB (HB6.out.block w.heap.size (by omega))]
      exact HT.out.2
    have q7 := bl1 w6 (.cells #[.int .u64 0, .int .u64 0, .int .i64 0] 45)
    have HK7 := hidX (HK6.out.below q7)
    have HB7 := hidX (HB6.out.trans (q7.mono HK6.out.base_le))
    have HP7 : Hid ((w6.alloc (.cells #[.int .u64 0, .int .u64 0, .int .i64 0] 45)).heap[w6.heap.size]? = some (Px 0#128 0)) := hidX (by
      unfold Px
      rw [hI_zero, lI_zero]
      exact Array.getElem?_push_size)
    have HPn : Hid (w6.heap.size ≠ V2.heap.size + 1 ∧ w6.heap.size ≠ gB ∧ w.heap.size + 1 ≤ w6.heap.size) := hidX ⟨by have := HK6.out.ltG; omega, by have := HK6.out.ltB; omega, HK6.out.base_le⟩
    have hlt6 : w.heap.size < w6.heap.size := by have := HK6.out.base_le; omega
    clear k6 b6 HK3 q7 t0 t1 HK6 HB6 b2 hmk w1f hi hz0 hz1 hz2 hgB2 hVs hgW
    go_wp2_with fail
    clear t1' hlt6
    revert HK7 HB7 HP7 HPn
    generalize w6.alloc (.cells #[.int .u64 0, .int .u64 0, .int .i64 0] 45) = W7
    generalize w6.heap.size = P
    generalize V2.heap.size + 1 = G
    generalize (.slice (some ⟨g4, 0, none⟩) 1 cap4 : Value) = vw6
    intro HK7 HB7 HP7 HPn
    go_loopw [42] (fun i wr => ∃ (k : Nat) (last : BitVec 128 × Int) (s : GrS) (vn vw vy : Value), k ≤ l.length ∧ i = .int .i64 k ∧ Hid (grwG (l.drop k) last s = grwG l (0#128, 0) grO) ∧ Hid (Gs (l.take k) last s) ∧ Hid (0 ≤ last.2 ∧ last.2 ≤ 128 ∧ cutW last.1 last.2 = last.1 ∧ ∀ (j : Nat) (hj : j < l.length), j + 1 = k → last = l[j].1) ∧ Hid (GwV wr (w.heap.size + 1) G gB F s.1 s.2.1 s.2.2 vn vw vy) ∧ Hid (wr.heap[P]? = some (Px last.1 last.2)) ∧ Hid (Below (w.heap.size + 1) V1 wr)) (fun i _ => l.length - (intOf i).toNat)
    case atStart => exact ⟨0, (0#128, 0), ([⟨0, 0, 0, 0, 0, 0⟩], [0#128], [0]), vn6, vw6, vy6, by omega, rfl, hidX rfl, hidX (by rw [List.take_zero]; exact gs_new), hidX ⟨Int.le_refl 0, by simp, cutZ8 _, fun j _ h => by omega⟩, HK7, HP7, HB7⟩
    case round =>
      clear HK7 HB7 HP7
      obtain ⟨k, last, s, vn, vw, vy, hk, rfl, HE, HG, HLa, HK, HP, HB⟩ := hrel
      by_cases hlt : (k : Int) < (l.length : Int)
      · have hks : k < l.length := by omega
        have HBw := hidX (HB0.out.trans (HB.out.mono (Nat.le_succ _)))
        rcases HV.out with h | ⟨b, off, rfl, hc⟩
        · rw [h] at hks; simp at hks
        · obtain ⟨x0, x1, x2, x3⟩ := rwr_cells hc k hks
          replace x0 := keepc HBw.out x0
          replace x1 := keepc HBw.out x1
          replace x2 := keepc HBw.out x2
          replace x3 := keepc HBw.out x3
          have hrk := HL.out.1 l[k] (List.getElem_mem hks)
          have HG2 := hidX (HG.out.next hF HL.out.1 HL.out.2 hl hks HLa.out.1 HLa.out.2.1 HLa.out.2.2.1 HLa.out.2.2.2)
          have HLa2 : Hid (0 ≤ l[k].1.2 ∧ l[k].1.2 ≤ 128 ∧ cutW l[k].1.1 l[k].1.2 = l[k].1.1 ∧ ∀ (j : Nat) (hj : j < l.length), j + 1 = k + 1 → l[k].1 = l[j].1) := hidX ⟨hrk.1.1, Int.le_trans hrk.1.2.1 hF, hrk.1.2.2, fun j hj e => (by obtain rfl : j = k := Nat.succ.inj e; rfl)⟩
          have HE2 : Hid (grwG (l.drop (k + 1)) l[k].1 (grT s last l[k]) = grwG l (0#128, 0) grO) := hidX (by rw [← HE.out, List.drop_eq_getElem_cons hks]; rfl)
          clear hc HV HBw HE
          revert HG2 HLa2 HE2 hrk x0 x1 x2 x3
          generalize l[k] = r
          obtain ⟨⟨px, pn⟩, ph⟩ := r
          intro x0 x1 x2 x3 hrk HG2 HLa2 HE2
          dsimp only at x0 x1 x2 x3 HG2 HLa2 HE2
          obtain ⟨⟨hp0, hp1, hp2⟩, hp3, hp4⟩ := hrk
          dsimp only at hp0 hp1 hp2 hp3 hp4
          obtain ⟨nN, rfl⟩ : ∃ nN : Nat, pn = (nN : Int) := ⟨pn.toNat, by omega⟩
          have m0 := meetN_nn last.1 last.2 px (nN : Int) HLa.out.1 hp0
          have m1 := meetN_le last.1 last.2 px (nN : Int)
          obtain ⟨mN, hmN⟩ : ∃ mN : Nat, meetN last.1 last.2 px (nN : Int) = (mN : Int) := ⟨(meetN last.1 last.2 px (nN : Int)).toNat, by omega⟩
          have KM := fun w => pmeet_any last.1 last.2 px (nN : Int) w
          rw [hmN] at KM m0 m1
          obtain ⟨b1, -, b3, b4⟩ := bkW_all HG.out.inv (by have := HG.out.nl; rw [List.length_take] at this; omega) mN
          have hmn : mN ≤ nN := by omega
          have hy1 := b1.y1
          have HgT : Hid (grT s last ((px, (nN : Int)), ph) = ((dnW (s.2.1.length : Int) px nN ph (bkW mN s.1 s.2.2).1 (bkW mN s.1 s.2.2).2).1, s.2.1 ++ [px], (dnW (s.2.1.length : Int) px nN ph (bkW mN s.1 s.2.2).1 (bkW mN s.1 s.2.2).2).2)) := hidX (by
            unfold grT
            dsimp only
            rw [hmN, Int.toNat_natCast, Int.toNat_natCast])
          have Hb1 := hidX (And.intro b1 (And.intro b3 b4))
          have Hbd : Hid (s.1.length ≤ 134217729 ∧ s.2.1.length ≤ 1048577 ∧ s.2.2.length ≤ 129 ∧ 1 ≤ s.2.2.length) := hidX (by
            have h1 := HG.out.nl
            have h2 := HG.out.wl
            have h3 := HG.out.yl
            have h4 := HG.out.inv.y1
            have h5 := HLa.out.2.1
            rw [List.length_take] at h1 h2
            exact ⟨by omega, by omega, by omega, h4⟩)
          have Hinv := hidX HG.out.inv
          have HN := hidX (And.intro hmn (And.intro hp1 hy1))
          have q4 := bl1 wr (Rx8 px (nN : Int) ph)
          have HK4 := hidX (HK.out.below q4)
          have HB4 := hidX (HB.out.trans (q4.mono HK.out.base_le))
          have HP4 := hidX ((q4.block P (blk_lt HP.out)).trans HP.out)
          have HR4 : Hid ((wr.alloc (Rx8 px (nN : Int) ph)).heap[wr.heap.size]? = some (Rx8 px (nN : Int) ph)) := hidX Array.getElem?_push_size
          have HRn : Hid (wr.heap.size ≠ G ∧ wr.heap.size ≠ gB ∧ wr.heap.size ≠ P) := hidX ⟨by have := HK.out.ltG; omega, by have := HK.out.ltB; omega, by have := blk_lt HP.out; omega⟩
          have p0 := at_block HP.out 0 (.int .u64 (hI last.1)) rfl
          have p1 := at_block HP.out 1 (.int .u64 (lI last.1)) rfl
          have p2 := at_block HP.out 2 (.int .i64 last.2) rfl
          have hPl := blk_lt HP.out
          have w3' : IntKind.i64.wrap ((k : Int) + 1) = ((k + 1 : Nat) : Int) := by rw [IntKind.wrap_i64]; push_cast; omega
          have FP := fun a b c w => fldP1 a b c w
          have HkS := hidX hk
          have Hks := hidX hks
          clear HG HK HB HP q4 b1 b3 b4 hp0 hp1 hp2 hp3 hp4 m0 m1 hmN hmn hy1 HLa
          unfold Rx8 at HK4 HB4 HP4 HR4
          go_wp2_with fail
          clear x0 x1 x2 x3 p0 p1 p2 hPl
          revert HK4 HB4 HP4 HR4 HRn
          generalize wr.alloc _ = W4
          generalize wr.heap.size = R
          intro HK4 HB4 HP4 HR4 HRn
          refine (KM W4).mono ?_
          rintro e w5 ⟨rfl, hb5⟩
          have HK5 := hidX (HK4.out.below hb5)
          have HB5 := hidX (HB4.out.trans (hb5.mono HK4.out.base_le))
          have HP5 := hidX ((hb5.block P (blk_lt HP4.out)).trans HP4.out)
          have HR5 := hidX ((hb5.block R (blk_lt HR4.out)).trans HR4.out)
          clear KM hb5 HK4 HB4 HP4 HR4
          go_wp2_with fail
          refine (back_any (w.heap.size + 1) G gB F mN s.1 s.2.1 s.2.2.reverse vn vw vy w5 (by rw [List.reverse_reverse]; exact HK5.out) (fun i hi => inv_mem Hinv.out i (by simpa using hi)) (by rw [List.length_reverse]; exact Hbd.out.2.2.2) (by have := Hbd.out.1; omega) (by rw [List.length_reverse]; have := Hbd.out.2.2.1; omega)).mono ?_
          rintro e w6 ⟨rfl, ⟨vy6', k6⟩, b6⟩
          have HK6 : Hid (GwV w6 (w.heap.size + 1) G gB F (bkW mN s.1 s.2.2).1 s.2.1 (bkW mN s.1 s.2.2).2 vn vw vy6') := hidX k6
          have HP6 := hidX (b6.mine HP5.out HPn.out.1 HPn.out.2.1 (own_not HK5.out.on HP5.out (by decide)) (own_not HK5.out.oy HP5.out (by decide)))
          have HR6 := hidX (b6.mine HR5.out HRn.out.1 HRn.out.2.1 (own_not HK5.out.on HR5.out (by decide)) (own_not HK5.out.oy HR5.out (by decide)))
          have HB6 := hidX (HB5.out.trans b6.1)
          have r0 := at_block HR6.out 0 (.int .u64 (hI px)) rfl
          have r1 := at_block HR6.out 1 (.int .u64 (lI px)) rfl
          have r2 := at_block HR6.out 2 (.int .i64 (nN : Int)) rfl
          have r3 := at_block HR6.out 3 (.int .i64 ph) rfl
          clear k6 b6 HK5 HP5 HR5 HB5
          go_wp2_with fail
          clear r0 r1 r2 r3
          refine (down_any (w.heap.size + 1) G gB F (bkW mN s.1 s.2.2).1 s.2.1 (bkW mN s.1 s.2.2).2 vn vw vy6' px nN ph w6 HK6.out (inv_mem Hb1.out.1) HN.out.2.2 (by rw [Hb1.out.2.2]; have := HN.out.1; omega) (by have := HN.out.2.1; omega) (by rw [Hb1.out.2.1]; have := Hbd.out.1; omega) (by have := Hbd.out.2.1; omega)).mono ?_
          rintro e w7 ⟨rfl, ⟨vn7, vw7, vy7, k7, -, -, -⟩, b7⟩
          have HK7 : Hid (GwV w7 (w.heap.size + 1) G gB F (grT s last ((px, (nN : Int)), ph)).1 (grT s last ((px, (nN : Int)), ph)).2.1 (grT s last ((px, (nN : Int)), ph)).2.2 vn7 vw7 vy7) := hidX (by rw [HgT.out]; exact k7)
          have HP7 := hidX (b7.mine HP6.out HPn.out.1 HPn.out.2.1 (own_not HK6.out.on HP6.out (by decide)) (own_not HK6.out.ow HP6.out (by decide)) (own_not HK6.out.oy HP6.out (by decide)))
          have HR7 := hidX (b7.mine HR6.out HRn.out.1 HRn.out.2.1 (own_not HK6.out.on HR6.out (by decide)) (own_not HK6.out.ow HR6.out (by decide)) (own_not HK6.out.oy HR6.out (by decide)))
          have HB7 := hidX (HB6.out.trans b7.1)
          clear k7 b7 HK6 HP6 HR6 HB6
          have r0 := at_block HR7.out 0 (.int .u64 (hI px)) rfl
          have r1 := at_block HR7.out 1 (.int .u64 (lI px)) rfl
          have r2 := at_block HR7.out 2 (.int .i64 (nN : Int)) rfl
          have p0 := at_block HP7.out 0 (.int .u64 (hI last.1)) rfl
          have p1 := at_block HP7.out 1 (.int .u64 (lI last.1)) rfl
          have p2 := at_block HP7.out 2 (.int .i64 last.2) rfl
          have f0 := fr_blk (j := 0) HP7.out
          have f1 := fr_blk (j := 1) HP7.out
          have f2 := fr_blk (j := 2) HP7.out
          have HP8 := hidX (set3_blk HP7.out (.int .u64 (hI px)) (.int .u64 (lI px)) (.int .i64 (nN : Int)))
          have s1 := set_blk (o := 0) HP7.out (.int .u64 (hI px))
          have s2 := set_blk (o := 1) s1 (.int .u64 (lI px))
          have HK8 := hidX (gw_set (gw_set (gw_set HK7.out HP7.out HPn.out.1 HPn.out.2.1 (by decide) (by decide) (by decide) 0 (.int .u64 (hI px))) s1 HPn.out.1 HPn.out.2.1 (by decide) (by decide) (by decide) 1 (.int .u64 (lI px))) s2 HPn.out.1 HPn.out.2.1 (by decide) (by decide) (by decide) 2 (.int .i64 (nN : Int)))
          have HB8 := hidX (((HB7.out.setCell (p := ⟨P, 0, none⟩) HPn.out.2.2 (.int .u64 (hI px))).setCell (p := ⟨P, 1, none⟩) HPn.out.2.2 (.int .u64 (lI px))).setCell (p := ⟨P, 2, none⟩) HPn.out.2.2 (.int .i64 (nN : Int)))
          clear HK7 HP7 HR7 HB7 s1 s2
          go_wp2
          go_roundw
          case rel => exact ⟨k + 1, (px, (nN : Int)), grT s last ((px, (nN : Int)), ph), vn7, vw7, vy7, by have := Hks.out; omega, rfl, HE2, HG2, HLa2, HK8, HP8, HB8⟩
          case measure => simp [intOf]; omega
      · have hke : k = l.length := by omega
        have Hke := hidX hke
        have hd : decide ((k : Int) < (l.length : Int)) = false := decide_eq_false hlt
        have Hbd : Hid (s.1.length ≤ 134217729 ∧ s.2.2.length ≤ 129 ∧ 1 ≤ s.2.2.length) := hidX (by
          have h1 := HG.out.nl
          have h3 := HG.out.yl
          have h4 := HG.out.inv.y1
          have h5 := HLa.out.2.1
          rw [List.length_take] at h1
          exact ⟨by omega, by omega, h4⟩)
        have KB0 := back_any (w.heap.size + 1) G gB F 0 s.1 s.2.1 s.2.2.reverse vn vw vy wr (by rw [List.reverse_reverse]; exact HK.out) (fun i hi => inv_mem HG.out.inv i (by simpa using hi)) (by rw [List.length_reverse]; exact Hbd.out.2.2) (by have := Hbd.out.1; omega) (by rw [List.length_reverse]; have := Hbd.out.2.1; omega)
        rw [show ((0 : Nat) : Int) = 0 from rfl] at KB0
        clear hke HK HP
        go_wp2_with fail
        refine KB0.mono ?_
        rintro e w6 ⟨rfl, ⟨vy6', k6⟩, b6⟩
        have HK6 : Hid (GwV w6 (w.heap.size + 1) G gB F (bkW 0 s.1 s.2.2).1 s.2.1 (bkW 0 s.1 s.2.2).2 vn vw vy6') := hidX k6
        have HB6 := hidX (HB0.out.trans ((HB.out.trans b6.1).mono (Nat.le_succ _)))
        have HG9 : Hid (Gs l last s) := hidX (by have := HG.out; rwa [Hke.out, List.take_length] at this)
        have HE9 : Hid (s = grwG l (0#128, 0) grO) := hidX (by rw [← HE.out, Hke.out, List.drop_length]; rfl)
        clear k6 b6 KB0
        go_wp2
        exact bodyPost_ret (v := .pointer (some ⟨gB, 0, none⟩)) (by simp [results, Try.results30, go_sem]) rfl ⟨G, gB, last, s, vn, vw, vy6', rfl, HE9.out, HG9.out, HK6.out, HB6.out⟩
end Go.Proofs.Ytofpbommhklooaa
