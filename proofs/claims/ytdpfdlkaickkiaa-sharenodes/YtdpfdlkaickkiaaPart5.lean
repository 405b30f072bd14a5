/-
  Part 5 of the proof: 3 texts, one behind the other.
-/
import Derived.Test.YtdpfdlkaickkiaaPart4
import Derived.Test.YtdpfdlkaickkiaaPart3
namespace Go.Proofs.Ytdpfdlkaickkiaa
open Go.RowKit Go.Shelf
set_option linter.unusedSimpArgs false
set_option linter.unusedVariables false

theorem at_16 {W : World} {z : Nat} {cs : Array Value} {T : TypeId} (hz : W.heap[z]? = some (.cells cs T)) (j : Nat) (u : Value) (hj : cs[j]? = some u) : W.cell? ⟨z, j, none⟩ = some u := by
  simp [World.cell?, hz, hj]
theorem fr_16 {W : World} {z j : Nat} {cs : Array Value} {T : TypeId} (h : W.heap[z]? = some (.cells cs T)) : W.frozen? ⟨z, j, none⟩ = false := by simp [World.frozen?, h]
theorem set_16 {W : World} {P o : Nat} {cs : Array Value} {T : TypeId} (h : W.heap[P]? = some (.cells cs T)) (v : Value) : (W.setCell ⟨P, o, none⟩ v).heap[P]? = some (.cells (cs.setIfInBounds o v) T) := by
  simp [World.setCell, Array.getElem?_modify, h]
theorem lt_16 {w : World} {z : Nat} {o : Obj} (hz : w.heap[z]? = some o) : z < w.heap.size := (Array.getElem?_eq_some_iff.1 hz).1
theorem far_16 {W : World} {z P o : Nat} {v : Value} (h : z ≠ P) : (W.setCell ⟨P, o, none⟩ v).heap[z]? = W.heap[z]? := Below.heap_setCell W ⟨P, o, none⟩ v z h
theorem new_16 (W : World) (o : Obj) : (W.alloc o).heap[W.heap.size]? = some o := World.alloc_heap_new W o
theorem old_16 {W : World} (o : Obj) {z : Nat} {x : Obj} (h : W.heap[z]? = some x) : (W.alloc o).heap[z]? = some x := (Below.heap_alloc W o z (lt_16 h)).trans h
theorem blk_16 {W W' : World} {row : Option Nat} (hg : W.grownBy W' row) (hr : ∀ r, row = some r → ∃ o : Obj, W.heap[r]? = some o ∧ o.isCells = false) {z : Nat} {cs : Array Value} {T : TypeId} {fr : Nat × Nat} (h : W.heap[z]? = some (.cells cs T fr)) : W'.heap[z]? = some (.cells cs T fr) := by
  refine (hg.block z (lt_16 h) (fun e => ?_)).trans h
  obtain ⟨o, h1, h2⟩ := hr z e.symm
  rw [h] at h1
  cases h1
  cases h2
theorem cell_16 {W W' : World} {row : Option Nat} (hg : W.grownBy W' row) (hr : ∀ r, row = some r → ∃ o : Obj, W.heap[r]? = some o ∧ o.isCells = false) {b o : Nat} {v : Value} (h : W.cell? ⟨b, o, none⟩ = some v) : W'.cell? ⟨b, o, none⟩ = some v := by
  have hb := cell_in h
  refine (World.cell?_of_block (a := ⟨b, o, none⟩) (hg.block b hb (fun e => ?_))).trans h
  obtain ⟨x, h1, h2⟩ := hr b e.symm
  rw [World.cell?, h1] at h
  cases x with
  | cells cs T fr => cases h2
  | _ => simp at h
def KX (X : Nat → Prop) (V U : World) : Prop := V.heap.size ≤ U.heap.size ∧ ∀ z, z < V.heap.size → ¬ X z → U.heap[z]? = V.heap[z]?
theorem KX.refl (X : Nat → Prop) (V : World) : KX X V V := ⟨Nat.le_refl _, fun _ _ _ => rfl⟩
theorem KX.trans {X : Nat → Prop} {A B C : World} (h : KX X A B) (g : KX X B C) : KX X A C := ⟨Nat.le_trans h.1 g.1, fun z h1 h2 => (g.2 z (Nat.lt_of_lt_of_le h1 h.1) h2).trans (h.2 z h1 h2)⟩
theorem KX.below {X : Nat → Prop} {V U U' : World} (h : KX X V U) (hb : Below U.heap.size U U') : KX X V U' := ⟨Nat.le_trans h.1 hb.size, fun z h1 h2 => (hb.block z (Nat.lt_of_lt_of_le h1 h.1)).trans (h.2 z h1 h2)⟩
theorem kx_below {X : Nat → Prop} {U U' : World} (hb : Below U.heap.size U U') : KX X U U' := ⟨hb.size, fun z h1 _ => hb.block z h1⟩
theorem KX.set {X : Nat → Prop} {V U : World} (h : KX X V U) (b o : Nat) (u : Value) (hb : X b ∨ V.heap.size ≤ b) : KX X V (U.setCell ⟨b, o, none⟩ u) := ⟨by simpa using h.1, fun z h1 h2 => (far_16 (by rintro rfl; rcases hb with q | q; exact h2 q; omega)).trans (h.2 z h1 h2)⟩
theorem KX.own {β : Type} {X : Nat → Prop} {B : Nat} {V : World} (hV : V.heap.size ≤ B) : OwnFrom B (fun (_ : β) U => KX X V U) := fun s A A' row hs hg hr => ⟨Nat.le_trans hs.1 hg.size, fun z h1 h2 => (hg.block z (Nat.lt_of_lt_of_le h1 hs.1) (fun e => by have := (hr z e.symm).1; omega)).trans (hs.2 z h1 h2)⟩
theorem KX.kz {X Z : Nat → Prop} {V U : World} (h : KX X V U) (hZ : ∀ z, Z z → ¬ X z) : KZ Z V U := ⟨h.1, fun z o h1 h2 => by
  rw [h.2 z (lt_16 h1) (hZ z h2)]
  exact h1⟩
theorem KX.keeps {X : Nat → Prop} {C : Nat} {V U : World} (h : KX X V U) (hC : ∀ z, X z → z < C) : KeepsFrom C V U := ⟨h.1, fun z o h1 h2 _ => by rw [h.2 z (lt_16 h2) (fun q => by have := hC z q; omega)]; exact h2⟩
theorem leaves_16 {n B : Nat} {P : Program} {fn : Func} {tmps : Array Value} {R : Ending → World → Prop} : ∀ (l : List Nat) (W : World), l.Nodup → (∀ D ∈ l, B ≤ D ∧ W.heap[D]? = some (.deferred (some []))) → (∀ W', Below B W W' → LeavesInM Fence.wide n P fn tmps R [] .returning W') → LeavesInM Fence.wide n P fn tmps R (l.map fun D => { target := .collected D, args := #[] }) .returning W
  | [], W, _, _, h => h W (Below.refl _ _)
  | D :: l, W, hn, hd, h => by
    obtain ⟨h1, h2⟩ := List.nodup_cons.mp hn
    obtain ⟨hB, hD⟩ := hd D (List.mem_cons_self ..)
    have hput : Below B W (W.putObj D (.deferred none)) := ⟨rfl, rfl, rfl, by simp, fun k hk => World.putObj_heap_other (by omega)⟩
    refine ⟨by simp, .inl ⟨D, W.putObj D (.deferred none), rfl, run_takeDeferred hD, leaves_16 l _ h2 (fun E hE => ?_) (fun W' hb => h W' (hput.trans hb))⟩⟩
    obtain ⟨a, b⟩ := hd E (List.mem_cons_of_mem _ hE)
    refine ⟨a, (World.putObj_heap_other ?_).trans b⟩
    rintro rfl
    exact h1 hE
theorem wl_nil16 {P : Program} {ops : Array Oper} {Q : Exit → Act → World → Prop} {a : Act} {w : World} (h : wpList P ops Q [] a w) : Q .normal a w := h
def MkS (B : Nat) (ls : List Nat) (W : World) : Prop := ls.Nodup ∧ ∀ D ∈ ls, B ≤ D ∧ W.heap[D]? = some (.deferred (some []))
theorem MkS.nil (B : Nat) (W : World) : MkS B [] W := ⟨List.nodup_nil, fun D hD => by cases hD⟩
theorem MkS.cons {B : Nat} {ls : List Nat} {V U : World} {X : Nat → Prop} {D : Nat} (h : MkS B ls V) (hk : KX X V U) (hX : ∀ z, X z → z < B) (h1 : V.heap.size ≤ D) (hB : B ≤ V.heap.size) (h2 : U.heap[D]? = some (.deferred (some []))) : MkS B (D :: ls) U := by
  have hlt : ∀ E ∈ ls, E < V.heap.size := fun E hE => lt_16 (h.2 E hE).2
  refine ⟨List.nodup_cons.mpr ⟨fun hm => by have := hlt D hm; omega, h.1⟩, fun E hE => ?_⟩
  rcases List.mem_cons.mp hE with rfl | hE
  · exact ⟨by omega, h2⟩
  · exact ⟨(h.2 E hE).1, (hk.2 E (hlt E hE) (fun q => by have := hX E q; have := (h.2 E hE).1; omega)).trans (h.2 E hE).2⟩
theorem MkS.keep {B : Nat} {ls : List Nat} {V U : World} {X : Nat → Prop} (h : MkS B ls V) (hk : KX X V U) (hX : ∀ z, X z → z < B) : MkS B ls U :=
  ⟨h.1, fun E hE => ⟨(h.2 E hE).1, (hk.2 E (lt_16 (h.2 E hE).2) (fun q => by have := hX E q; have := (h.2 E hE).1; omega)).trans (h.2 E hE).2⟩⟩
theorem wpList_make16 {P : Program} (w : World) {ops : Array Oper} {rest : List Oper} {o : Oper} {a : Act} {Q : Exit → Act → World → Prop}
    (hg : o.guard = none) (l c : Operand) (t : TypeId) (hop : o.op = Op.makeSlice t l c)
    (e : TypeId) (i : TypeInfo) (z : Value) (h1 : P.underlying t = some (.slice e)) (h2 : P.info? e = some i) (h3 : i.zero = some z)
    (kl kc : IntKind) (L C : Int) (n m : Nat) (hl : a.eval l = .int kl L) (hc : a.eval c = .int kc C) (hL : L = (n : Int)) (hC : C = (m : Int)) (hnm : n ≤ m) (b2 : i.bytes * m ≤ 281474976710656) (b3 : m ≤ maxLen)
    (hK : wpList P ops Q rest (a.put o.dst (.slice (some ⟨w.heap.size, 0, none⟩) n m)) (w.alloc (.cells (madeCells z.cells (m * i.size)) e))) :
    wpList P ops Q (o :: rest) a w := by
  refine wpList_plain hg fun K hK' => ?_
  have h63' : (m : Int) ≤ 9223372036854775807 := by
    have h := b3
    simp [maxLen] at h
    omega
  have hb' : (i.bytes : Int) * (m : Int) ≤ 281474976710656 := by
    have h : ((i.bytes * m : Nat) : Int) ≤ 281474976710656 := by omega
    rwa [Int.natCast_mul] at h
  have hr := run_make (P := P) w t e i z h1 h2 h3 kl kc n m (by omega) (by omega) hb' h63'
  simp only [Int.toNat_natCast] at hr
  subst hL
  subst hC
  unfold Oper.wp
  simp [execOp, hop, hl, hc, hr, Result.andThen]
  exact hK' _ _ hK
theorem made_one16 (z : Value) (n : Nat) : madeCells #[z] n = (List.replicate n z).toArray := by
  rw [← toList_madeCells_one]
theorem own_base16 {w : World} {base base' e size n : Nat} {v : Value} {xs : List Value} (h : w.ownsRow base e size v n xs) (hb : base' ≤ base) : w.ownsRow base' e size v n xs := by
  refine ⟨h.1, ?_⟩
  rcases h.2 with hn | ⟨g, cap, cur, hv, h1, h2⟩
  · exact .inl hn
  · exact .inr ⟨g, cap, cur, hv, by omega, h2⟩
end Go.Proofs.Ytdpfdlkaickkiaa
namespace Go.Proofs.Ytdpfdlkaickkiaa
open Go.RowKit Go.Shelf
set_option linter.unusedSimpArgs false
set_option linter.unusedVariables false
attribute [local go_sem] Oper.semAt_some

theorem arr37 (t : Array Value) (h : t.size = 37) : ∃ u : Nat → Value, (∀ i, u i = t.getD i undef) ∧ t = #[u 0, u 1, u 2, u 3, u 4, u 5, u 6, u 7, u 8, u 9, u 10, u 11, u 12, u 13, u 14, u 15, u 16, u 17, u 18, u 19, u 20, u 21, u 22, u 23, u 24, u 25, u 26, u 27, u 28, u 29, u 30, u 31, u 32, u 33, u 34, u 35, u 36] := by
  refine ⟨fun i => t.getD i undef, fun _ => rfl, ?_⟩
  obtain ⟨l⟩ := t
  have h' : l.length = 37 := h
  have e : l = (List.range 37).map (fun i => (⟨l⟩ : Array Value).getD i undef) := by
    apply List.ext_getElem
    · simp [h']
    · intro i h1 h2
      simp [Array.getD, h1]
  have e2 : (List.range 37).map (fun i => (⟨l⟩ : Array Value).getD i undef) = [(⟨l⟩ : Array Value).getD 0 undef, (⟨l⟩ : Array Value).getD 1 undef, (⟨l⟩ : Array Value).getD 2 undef, (⟨l⟩ : Array Value).getD 3 undef, (⟨l⟩ : Array Value).getD 4 undef, (⟨l⟩ : Array Value).getD 5 undef, (⟨l⟩ : Array Value).getD 6 undef, (⟨l⟩ : Array Value).getD 7 undef, (⟨l⟩ : Array Value).getD 8 undef, (⟨l⟩ : Array Value).getD 9 undef, (⟨l⟩ : Array Value).getD 10 undef, (⟨l⟩ : Array Value).getD 11 undef, (⟨l⟩ : Array Value).getD 12 undef, (⟨l⟩ : Array Value).getD 13 undef, (⟨l⟩ : Array Value).getD 14 undef, (⟨l⟩ : Array Value).getD 15 undef, (⟨l⟩ : Array Value).getD 16 undef, (⟨l⟩ : Array Value).getD 17 undef, (⟨l⟩ : Array Value).getD 18 undef, (⟨l⟩ : Array Value).getD 19 undef, (⟨l⟩ : Array Value).getD 20 undef, (⟨l⟩ : Array Value).getD 21 undef, (⟨l⟩ : Array Value).getD 22 undef, (⟨l⟩ : Array Value).getD 23 undef, (⟨l⟩ : Array Value).getD 24 undef, (⟨l⟩ : Array Value).getD 25 undef, (⟨l⟩ : Array Value).getD 26 undef, (⟨l⟩ : Array Value).getD 27 undef, (⟨l⟩ : Array Value).getD 28 undef, (⟨l⟩ : Array Value).getD 29 undef, (⟨l⟩ : Array Value).getD 30 undef, (⟨l⟩ : Array Value).getD 31 undef, (⟨l⟩ : Array Value).getD 32 undef, (⟨l⟩ : Array Value).getD 33 undef, (⟨l⟩ : Array Value).getD 34 undef, (⟨l⟩ : Array Value).getD 35 undef, (⟨l⟩ : Array Value).getD 36 undef] := rfl
  rw [e2] at e
  exact congrArg _ e
def usK (s : List Bool × Nat) (k : Int) : List Bool × Nat := if s.1.getD k.toNat false then s else (s.1.set k.toNat true, s.2 + 1)
def usN (s : List Bool × Nat) (d : Nde) : List Bool × Nat := (kidL d.r).foldl usK s
def us0 (N : Nat) : List Bool × Nat := ((List.replicate N false).set 0 true, 1)
def usedB (L : List Nde) : Bool := (L.foldl usN (us0 L.length)).2 == L.length
theorem usK_len (s : List Bool × Nat) (k : Int) : (usK s k).1.length = s.1.length := by unfold usK; split <;> simp
def USo (s : List Bool × Nat) : Prop := s.2 = s.1.count true
theorem usK_so {s : List Bool × Nat} (h : USo s) (k : Int) (hk : k.toNat < s.1.length) : USo (usK s k) := by
  unfold usK
  split
  · exact h
  · rename_i hf
    show s.2 + 1 = (s.1.set k.toNat true).count true
    rw [List.count_set hk, h]
    rw [List.getD_eq_getElem?_getD, List.getElem?_eq_getElem hk] at hf
    simp only [Option.getD_some] at hf
    simp [hf]
theorem usF_so : ∀ (ks : List Int) (s : List Bool × Nat), USo s → (∀ k ∈ ks, k.toNat < s.1.length) → USo (ks.foldl usK s) ∧ (ks.foldl usK s).1.length = s.1.length
  | [], s, h, _ => ⟨h, rfl⟩
  | k :: ks, s, h, hk => by
    have := usF_so ks (usK s k) (usK_so h k (hk k (List.mem_cons_self ..))) (fun j hj => by rw [usK_len]; exact hk j (List.mem_cons_of_mem _ hj))
    rw [usK_len] at this
    exact this
theorem usL_so : ∀ (L : List Nde) (s : List Bool × Nat), USo s → (∀ d ∈ L, ∀ k ∈ kidL d.r, k.toNat < s.1.length) → USo (L.foldl usN s) ∧ (L.foldl usN s).1.length = s.1.length
  | [], s, h, _ => ⟨h, rfl⟩
  | d :: L, s, h, hk => by
    have h1 := usF_so (kidL d.r) s h (hk d (List.mem_cons_self ..))
    have := usL_so L (usN s d) h1.1 (fun e he k hk' => by show _ < ((kidL d.r).foldl usK s).1.length; rw [h1.2]; exact hk e (List.mem_cons_of_mem _ he) k hk')
    exact ⟨this.1, this.2.trans h1.2⟩
theorem us0_so (N : Nat) (h : 0 < N) : USo (us0 N) ∧ (us0 N).1.length = N := by
  refine ⟨?_, by unfold us0; simp⟩
  unfold USo us0
  dsimp only
  rw [List.count_set (by simpa using h)]
  simp [List.count_replicate]
def cBo (b : Bool) : Value := .bool b
structure UsV (w : World) (N : Nat) (s : List Bool × Nat) (W : World) : Prop where
  g : W.heap[w.heap.size]? = some (.cells (s.1.map cBo).toArray 4)
  u : W.heap[w.heap.size + 1]? = some (.cells #[.slice (some ⟨w.heap.size, 0, none⟩) N N] 76)
  c : W.heap[w.heap.size + 1 + 1]? = some (.cells #[.int .i64 (s.2 : Int)] 3)
  b : Below w.heap.size w W
  l : s.1.length = N
def UsX (w : World) (z : Nat) : Prop := z = w.heap.size ∨ z = w.heap.size + 1 + 1
section
variable {w W W' : World} {N : Nat} {s : List Bool × Nat}
theorem UsV.below (h : UsV w N s W) (hb : Below W.heap.size W W') : UsV w N s W' := ⟨(hb.block _ (lt_16 h.g)).trans h.g, (hb.block _ (lt_16 h.u)).trans h.u, (hb.block _ (lt_16 h.c)).trans h.c, keepb hb h.b, h.l⟩
theorem UsV.kept {row : Option Nat} (h : UsV w N s W) (hg : W.grownBy W' row) (hr : ∀ r, row = some r → w.heap.size ≤ r ∧ ∃ o : Obj, W.heap[r]? = some o ∧ o.isCells = false) : UsV w N s W' :=
  ⟨blk_16 hg (fun r e => (hr r e).2) h.g, blk_16 hg (fun r e => (hr r e).2) h.u, blk_16 hg (fun r e => (hr r e).2) h.c, h.b.grown hg h.b.size (fun r e => (hr r e).1), h.l⟩
theorem map_set16 (l : List Bool) (k : Nat) (b : Bool) : (l.map cBo).toArray.setIfInBounds k (.bool b) = ((l.set k b).map cBo).toArray := by
  rw [List.setIfInBounds_toArray, List.map_set]; rfl
theorem UsV.put (h : UsV w N s W) (k : Nat) : UsV w N (s.1.set k true, s.2) (W.setCell ⟨w.heap.size, k, none⟩ (.bool true)) := by
  refine ⟨?_, (far_16 (by omega)).trans h.u, (far_16 (by omega)).trans h.c, h.b.setCell (p := ⟨w.heap.size, k, none⟩) (Nat.le_refl _) _, by simp [h.l]⟩
  rw [set_16 h.g, map_set16]
theorem UsV.cnt (h : UsV w N s W) (n : Nat) : UsV w N (s.1, n) (W.setCell ⟨w.heap.size + 1 + 1, 0, none⟩ (.int .i64 (n : Int))) := by
  refine ⟨(far_16 (by omega)).trans h.g, (far_16 (by omega)).trans h.u, ?_, h.b.setCell (p := ⟨w.heap.size + 1 + 1, 0, none⟩) (by show w.heap.size ≤ w.heap.size + 1 + 1; omega) _, h.l⟩
  rw [set_16 h.c]; simp
theorem UsV.cell (h : UsV w N s W) {k : Nat} (hk : k < N) : W.cell? ⟨w.heap.size, k, none⟩ = some (.bool (s.1.getD k false)) := by
  refine at_16 h.g k _ ?_
  rw [List.getElem?_toArray, List.getElem?_map, List.getElem?_eq_getElem (by rw [h.l]; exact hk), List.getD_eq_getElem?_getD, List.getElem?_eq_getElem (by rw [h.l]; exact hk)]
  rfl
end
theorem Try.infoO16 : (Try.prog.info? 4).map (fun i => (i.zero, i.size, i.bytes)) = some (some (.bool false), 1, 1) := by kernel_rfl
set_option maxRecDepth 100000 in
set_option maxHeartbeats 16000000 in
theorem allUsed_any (v : Value) (L : List Nde) (w : World) (hv : RwD w v L) (h0 : 0 < L.length) (hl : L.length ≤ 1000000000) (hr : ∀ d ∈ L, d.r.length ≤ 1000000000) (hk : ∀ d ∈ L, ∀ x ∈ kidL d.r, 0 ≤ x ∧ x < L.length) :
    Calls Try.prog 42 #[v] w fun e w' => e = .returned (.bool (usedB L)) ∧ Below w.heap.size w w' := by
  obtain ⟨i0, hi, hz0, hz1, hz2⟩ := info13 Try.infoO16
  obtain ⟨ao, c, rfl, hc, hrow⟩ := hv
  obtain ⟨b, off, rfl, hcell⟩ : ∃ b off, ao = some ⟨b, off, none⟩ ∧ ∀ j d, L[j]? = some d → ∃ vr, w.cell? ⟨b, off + j * 2, none⟩ = some (.int .i64 d.b) ∧ w.cell? ⟨b, off + j * 2 + 1, none⟩ = some vr ∧ RwN w vr d.r := by
    rcases hrow with h | h
    · rw [h] at h0; simp at h0
    · exact h
  have HC := hid13 hcell
  have HL : Hid (0 < L.length ∧ L.length ≤ 1000000000 ∧ (∀ d ∈ L, d.r.length ≤ 1000000000) ∧ (∀ d ∈ L, ∀ x ∈ kidL d.r, 0 ≤ x ∧ x < L.length)) := ⟨h0, hl, hr, hk⟩
  have h0i : (0 : Int) < (L.length : Int) := by omega
  clear hcell hrow hr hk
  refine (callsIn_wide (n := 9)).1 ?_
  refine callsIn_of_wp_marks Try.func42 rfl trivial ?_ rfl
  simp only [Try.ntmps42, List.size_toArray, List.length_cons, List.length_nil, Nat.reduceAdd, Nat.reduceSub, Array.replicate_succ, Array.replicate_zero, List.push_toArray, List.append_toArray, List.nil_append, List.cons_append]
  refine wpIn_wide.2 ?_
  go_wp2_with (at_make; apply stopHere9)
  refine (show wpList _ _ _ _ _ _ from ?_)
  refine wpList_make16 _ rfl _ _ 76 rfl 4 i0 (.bool false) Try.underlying76 hi hz0 .i64 .i64 _ _ L.length L.length rfl rfl rfl rfl (Nat.le_refl _) (by rw [hz2]; omega) (by unfold maxLen; omega) ?_
  have eO : madeCells (Value.bool false).cells (L.length * i0.size) = ((List.replicate L.length false).map cBo).toArray := by rw [hz1, Nat.mul_one, List.map_replicate]; exact made_one16 _ _
  rw [eO]
  clear eO
  obtain ⟨O, hO⟩ : ∃ O : Obj, O = .cells ((List.replicate L.length false).map cBo).toArray 4 := ⟨_, rfl⟩
  rw [← hO]
  have g1 : (w.alloc O).heap[w.heap.size]? = some (.cells ((List.replicate L.length false).map cBo).toArray 4) := by rw [← hO]; exact new_16 _ _
  have c1 := at_16 g1 0 (.bool false) (by rw [List.getElem?_toArray, List.getElem?_map, List.getElem?_replicate_of_lt h0]; rfl)
  have f1 := fr_16 (j := 0) g1
  have U3 : UsV w L.length (us0 L.length) ((((w.alloc O).setCell ⟨w.heap.size, 0, none⟩ (.bool true)).alloc (.cells #[.slice (some ⟨w.heap.size, 0, none⟩) L.length L.length] 76)).alloc (.cells #[.int .i64 1] 3)) := by
    have e1 : ((w.alloc O).setCell ⟨w.heap.size, 0, none⟩ (.bool true)).heap.size = w.heap.size + 1 := by simp
    have e2 : (((w.alloc O).setCell ⟨w.heap.size, 0, none⟩ (.bool true)).alloc (.cells #[.slice (some ⟨w.heap.size, 0, none⟩) L.length L.length] 76)).heap.size = w.heap.size + 1 + 1 := by simp
    refine ⟨?_, ?_, ?_, ?_, by unfold us0; simp⟩
    · refine old_16 _ (old_16 _ ?_)
      rw [set_16 g1, map_set16]; rfl
    · refine old_16 _ ?_
      have := new_16 ((w.alloc O).setCell ⟨w.heap.size, 0, none⟩ (.bool true)) (.cells #[.slice (some ⟨w.heap.size, 0, none⟩) L.length L.length] 76)
      rwa [e1] at this
    · have := new_16 (((w.alloc O).setCell ⟨w.heap.size, 0, none⟩ (.bool true)).alloc (.cells #[.slice (some ⟨w.heap.size, 0, none⟩) L.length L.length] 76)) (.cells #[.int .i64 1] 3)
      rw [e2] at this
      exact this
    · exact (((bl1 w O).setCell (p := ⟨w.heap.size, 0, none⟩) (Nat.le_refl _) _).alloc (by simp) _).alloc (by simp; omega) _
  have HU := hid13 U3
  have e9 : (((w.alloc O).alloc (.cells #[.slice (some ⟨w.heap.size, 0, none⟩) L.length L.length] 76)).cell? ⟨w.heap.size, 0, none⟩) = some (.bool false) := keepc (bl1 _ _) c1
  have f9 : (((w.alloc O).alloc (.cells #[.slice (some ⟨w.heap.size, 0, none⟩) L.length L.length] 76)).frozen? ⟨w.heap.size, 0, none⟩) = false := keepf (bl1 _ _) c1 f1
  clear g1 U3 hO c1 f1
  go_wp2_with fail
  clear e9 f9
  revert HU
  generalize (((w.alloc O).setCell ⟨w.heap.size, 0, none⟩ (.bool true)).alloc (.cells #[.slice (some ⟨w.heap.size, 0, none⟩) L.length L.length] 76)).alloc (.cells #[.int .i64 1] 3) = W0
  intro HU
  refine wp_loop (fun a W => ∃ (j : Nat) (ls : List Nat), a.tmps.size = 37 ∧ a.tmps.getD 0 undef = .slice (some ⟨b, off, none⟩) L.length c ∧ a.tmps.getD 3 undef = .pointer (some ⟨w.heap.size + 1, 0, none⟩) ∧ a.tmps.getD 4 undef = .pointer (some ⟨w.heap.size + 1 + 1, 0, none⟩) ∧ a.tmps.getD 13 undef = .slice (some ⟨b, off, none⟩) L.length c ∧ a.tmps.getD 14 undef = .int .i64 (L.length : Int) ∧ a.tmps.getD 15 undef = .int .i64 (j : Int) ∧ a.defers = (ls.map fun D => { target := .collected D, args := #[] }) ∧ Hid (j ≤ L.length ∧ MkS (w.heap.size + 3) ls W ∧ UsV w L.length ((L.take j).foldl usN (us0 L.length)) W)) (fun a W => L.length - (intOf13 (a.tmps.getD 15 undef)).toNat) ?_ ?_
  · exact ⟨0, [], rfl, rfl, rfl, rfl, rfl, rfl, rfl, rfl, hid13 ⟨Nat.zero_le _, MkS.nil _ _, HU.out⟩⟩
  rintro ⟨tm, df⟩ W ⟨j, ls, hs, h0', h3, h4, h13, h14, h15, hdf, HLL⟩
  dsimp only at hs h0' h3 h4 h13 h14 h15 hdf
  obtain ⟨u, hu, htm⟩ := arr37 tm hs
  rw [← hu] at h0' h3 h4 h13 h14 h15
  have HMu : Hid (L.length - (intOf13 (tm.getD 15 undef)).toNat = L.length - j) := hid13 (by rw [← hu, h15]; simp [intOf13])
  rw [HMu.out]
  rw [htm, hdf, h0', h3, h4, h13, h14, h15]
  clear hu htm hs hdf h0' h3 h4 h13 h14 h15 HMu tm df HU
  by_cases hlt : j < L.length
  · have hli : (j : Int) < (L.length : Int) := by omega
    obtain ⟨d, hd⟩ : ∃ d, L[j]? = some d := ⟨L[j], by simp [hlt]⟩
    have HT : Hid ((L.take (j + 1)).foldl usN (us0 L.length) = (kidL d.r).foldl usK ((L.take j).foldl usN (us0 L.length))) := by
      show _ = _
      rw [List.take_add_one, hd, List.foldl_append]; rfl
    have hmem : d ∈ L := List.mem_of_getElem? hd
    have HD : Hid (d.r.length ≤ 1000000000 ∧ ∀ x ∈ kidL d.r, 0 ≤ x ∧ x < L.length) := ⟨HL.out.2.2.1 d hmem, HL.out.2.2.2 d hmem⟩
    obtain ⟨vr, x0, x1, hR⟩ := HC.out j d hd
    obtain ⟨db, dr⟩ := d
    dsimp only at HT HD x0 x1 hR
    have x0 := keepc HLL.out.2.2.b x0
    have x1 := keepc HLL.out.2.2.b x1
    obtain ⟨vo, vc, hvr, hvc, hvr2⟩ := id hR
    have HSo0 : Hid (USo ((L.take j).foldl usN (us0 L.length)) ∧ ((L.take j).foldl usN (us0 L.length)).1.length = L.length) := hid13 (by
      obtain ⟨a1, a2⟩ := us0_so L.length h0
      have := usL_so (L.take j) (us0 L.length) a1 (fun e he k hk => by rw [a2]; have := HL.out.2.2.2 e (List.mem_of_mem_take he) k hk; omega)
      exact ⟨this.1, this.2.trans a2⟩)
    generalize hS0 : (L.take j).foldl usN (us0 L.length) = S0 at *
    have HR := hid13 hR
    have q1 := bl1 W (.cells #[.int .i64 db, vr] 57)
    have q2 := bl1 (W.alloc (.cells #[.int .i64 db, vr] 57)) (.cells #[.int .i64 db, vr] 57)
    have HQ := hid13 (keepb q2 q1)
    have HA2 : Hid (AtD ((W.alloc (.cells #[.int .i64 db, vr] 57)).alloc (.cells #[.int .i64 db, vr] 57)) (W.heap.size + 1) db vr) := hid13 (by have := atd_new (W.alloc (.cells #[.int .i64 db, vr] 57)) db vr 57; rwa [World.size_alloc] at this)
    have HZ : Hid (dr ≠ [] → ∀ ad, vo = some ad → ad.block < w.heap.size) := hid13 (fun hne ad e => by
      rcases hvr2 with h | ⟨b2, o2, e2, h2⟩
      · exact absurd h hne
      · rw [e2] at e
        cases e
        obtain ⟨r, t, hrt⟩ := List.exists_cons_of_ne_nil hne
        exact cell_in (h2 0 r (by rw [hrt]; rfl)).1)
    have KK := fun w => kids_any db vr w
    subst hvr
    have HJ : Hid (j < L.length ∧ L.length ≤ 1000000000) := ⟨hlt, hl⟩
    have mj : IntKind.i64.wrap ((j : Int) + 1) = ((j + 1 : Nat) : Int) := by rw [IntKind.wrap_i64]; push_cast; omega
    clear hS0 hR q1 q2 hd hmem hvr2 hlt
    go_wp2_with fail
    refine (KK _).mono ?_
    rintro e W2 ⟨rfl, hW2⟩
    rw [← hW2] at HA2 HQ
    have HA2' := hid13 HA2.out
    have hsz : W2.heap.size = W.heap.size + 2 := by rw [hW2]; simp
    have HSz := hid13 hsz
    clear hW2 KK x0 x1 hsz
    go_wp2_with fail
    refine (wpIn_wide (n := 9)).1 ?_
    have HSo : Hid (USo S0 ∧ S0.1.length = L.length) := HSo0
    refine rangeXA 9 (by decide) (gf := 83) (lb := #[.pointer (some ⟨W.heap.size + 1, 0, none⟩)]) rfl (enters_of Try.func83 (by kernel_rfl) rfl)
      (kids1_any (9 - 1) (fun z => z < w.heap.size ∨ z = W.heap.size + 1) (W.heap.size + 1) db vo vc dr HD.out.1 0 W2 ⟨HA2.out, .inr rfl, HR.out.below (keepb HQ.out HLL.out.2.2.b), fun hne ad e => .inl (HZ.out hne ad e)⟩) (Nat.zero_le _) (fun A => KZ.refl _ _) (fun h k => h.trans k) (fun V o o' h1 h2 => kz_put (by have := HSz.out; have := HLL.out.2.2.b.size; rintro (q | q) <;> omega) V o o' h1 h2) (Below.refl _ _) (fun _ => rfl)
      (fun pre V => UsV w L.length (pre.foldl usK S0) V ∧ KX (UsX w) W V)
      (fun c pre V => False)
      (fun s X Y row hs hg hr => ⟨hs.1.kept hg (fun r e => ⟨by have := (hr r e).1; have := HSz.out; have := HLL.out.2.2.b.size; omega, (hr r e).2⟩), KX.own (β := Unit) (B := W2.heap.size) (by have := HSz.out; omega) () X Y row hs.2 hg hr⟩)
      (fun c s X Y row hs hg hr => hs)
      ⟨HLL.out.2.2.below HQ.out, (KX.refl _ _).below HQ.out⟩
      ?AX ?assign ?body ?done ?stop
    case assign =>
      intro lo y V K hK
      unfold encI
      simp only [List.zip_toArray, List.zip_cons_cons, List.zip_nil_left, List.zip_nil_right, List.foldl_toArray, List.foldl_cons, List.foldl_nil, List.setIfInBounds_toArray, List.set_cons_zero, List.set_cons_succ, Array.zip]
      have HKK := hid13 hK
      clear hK
      gi_wp2
      exact HKK.out
    case body =>
      rintro lo pre x V hlo - ⟨hU, hX⟩ hsp
      obtain ⟨hx0, hx1⟩ := HD.out.2 x (hsp.mem (by simp))
      have HSp : Hid (USo (pre.foldl usK S0) ∧ (pre.foldl usK S0).1.length = L.length) := hid13 (by
        have := usF_so pre S0 HSo.out.1 (fun k hk => by
          have := HD.out.2 k (hsp.mem (by simp [hk]))
          have h2 := HSo.out.2
          omega)
        exact ⟨this.1, this.2.trans HSo.out.2⟩)
      obtain ⟨k, rfl⟩ : ∃ k : Nat, x = (k : Int) := ⟨x.toNat, by omega⟩
      have hkN : k < L.length := by omega
      have HF : Hid ((pre ++ [(k : Int)]).foldl usK S0 = usK (pre.foldl usK S0) (k : Int)) := by show _ = _; rw [List.foldl_append]; rfl
      generalize pre.foldl usK S0 = S at *
      have u0 := at_16 hU.u 0 _ rfl
      have v0 := hU.cell hkN
      have v0f := fr_16 (j := k) hU.g
      have c0 := at_16 hU.c 0 _ rfl
      have HU := hid13 hU
      have HX := hid13 hX
      have HV : Hid (w.heap.size + 3 ≤ W2.heap.size ∧ W2.heap.size ≤ lo) := ⟨by have := lt_16 HLL.out.2.2.c; have := HSz.out; omega, hlo⟩
      clear hU hX hsp
      cases ht : S.1.getD k false with
      | true =>
        rw [ht] at v0
        have HE : Hid (usK S (k : Int) = S) := by show _ = _; unfold usK; rw [Int.toNat_natCast, ht, if_pos rfl]
        clear ht
        gi_wp2
        exact ⟨KeepsFrom.refl _ _, KZ.refl _ _, by rw [HF.out, HE.out]; exact HU.out, HX.out⟩
      | false =>
        rw [ht] at v0
        have HE : Hid (usK S (k : Int) = (S.1.set k true, S.2 + 1)) := by show _ = _; unfold usK; rw [Int.toNat_natCast, ht, if_neg (by decide)]
        have HS2 : Hid (S.2 ≤ L.length) := hid13 (by rw [HSp.out.1, ← HSp.out.2]; exact List.count_le_length)
        have mc : IntKind.i64.wrap ((S.2 : Int) + 1) = ((S.2 + 1 : Nat) : Int) := by rw [IntKind.wrap_i64]; have := HS2.out; push_cast; omega
        have U1 := HU.out.put k
        have d0 := at_16 U1.c 0 _ rfl
        have d0f := fr_16 (j := 0) U1.c
        have U2 := U1.cnt (S.2 + 1)
        have HU2 := hid13 U2
        have HX2 := hid13 ((HX.out.set w.heap.size k (.bool true) (.inl (.inl rfl))).set (w.heap.size + 1 + 1) 0 (.int .i64 ((S.2 + 1 : Nat) : Int)) (.inl (.inr rfl)))
        have HX3 := hid13 (((KX.refl (UsX w) V).set w.heap.size k (.bool true) (.inl (.inl rfl))).set (w.heap.size + 1 + 1) 0 (.int .i64 ((S.2 + 1 : Nat) : Int)) (.inl (.inr rfl)))
        clear ht U1 U2
        gi_wp2
        exact ⟨HX3.out.keeps (fun z hz => by have := HV.out; rcases hz with q | q <;> omega), HX3.out.kz (fun z hz q => by have := lt_16 HLL.out.2.2.c; rcases q with q | q <;> rcases hz with z1 | z1 <;> omega), by rw [HF.out, HE.out]; exact HU2.out, HX2.out⟩
    case done =>
      rintro D ys V hD rfl ⟨hU, hX⟩ hK
      have HU := hid13 hU
      rw [← HT.out] at HU
      have HM := hid13 (HLL.out.2.1.cons hX (fun z hz => by rcases hz with q | q <;> omega) (by have := HSz.out; omega) (by have := lt_16 HLL.out.2.2.c; omega) hK)
      clear hU hX hK HLL
      refine wl_nil16 (P := Try.prog) (ops := #[]) ?_
      go_wp2
      refine ⟨⟨j + 1, D :: ls, rfl, rfl, rfl, rfl, rfl, rfl, rfl, rfl, hid13 ⟨by have := HJ.out; omega, HM.out, HU.out⟩⟩, ?_⟩
      have := HJ.out
      first | (simp [intOf13]; omega) | (unfold intOf13; simp; omega)
    case stop =>
      rintro D c pre V hD hpre h hK
      exact h.elim
  · have hli : ¬ (j : Int) < (L.length : Int) := by omega
    have hj : j = L.length := by have := HLL.out.1; omega
    have HUe : Hid (UsV w L.length (L.foldl usN (us0 L.length)) W) := by have := HLL.out.2.2; rw [hj, List.take_length] at this; exact this
    have c0 := at_16 HUe.out.c 0 _ rfl
    have HE : Hid (usedB L = (((L.foldl usN (us0 L.length)).2 : Int) == (L.length : Int))) := by
      show _ = _
      unfold usedB
      rw [Bool.eq_iff_iff]; simp
      constructor <;> intro h <;> omega
    generalize (L.foldl usN (us0 L.length)).2 = cnt at *
    have HSw := hid13 (lt_16 HUe.out.c)
    have HBe := hid13 HUe.out.b
    have HMk := hid13 HLL.out.2.1
    clear hj HLL HUe
    go_wp2
    refine leaves_16 (B := w.heap.size + 3) ls _ HMk.out.1 HMk.out.2 (fun W' hb => ?_)
    refine ⟨.bool ((cnt : Int) == (L.length : Int)), ?_, by rw [HE.out], HBe.out.trans (hb.mono (by omega))⟩
    simp [results, Try.results42, go_sem]
end Go.Proofs.Ytdpfdlkaickkiaa
namespace Go.Proofs.Ytdpfdlkaickkiaa
open Go.RowKit Go.Shelf
set_option linter.unusedSimpArgs false
set_option linter.unusedVariables false

section
variable {P : Program}
theorem qpw_any {l : List Oper} (m : Nat) (ok : QpOk l m m) {C : World → Prop} {Q : Exit → Act → World → Prop} {a : Act} {w : World} (ds : List (Option Tmp)) (vals : List Value)
    (hC : C w) (hwalk : QW P (l.take m).toArray C (fun a' => a' = putAll a ds vals) (l.take m) a) (hpost : ∀ w, C w → wpList P l.toArray Q (l.drop m) (putAll a ds vals) w) : wpAny P .any l.toArray Q l.toArray.size (Array.replicate l.toArray.size false) a w := by
  have hml := ok.ml
  have hlen : (l.take m).length = m := by rw [List.length_take]; omega
  have any : wpAnyQ P .any (l.take m).toArray C (fun a' => a' = putAll a ds vals) m (Array.replicate m false) a := by
    have hB := ok.lex undef
    rw [rep_out _ _ _ (by omega)] at hB
    simp only [Region.lexB, Bool.and_eq_true] at hB
    have := wpAnyQ_lex (C := C) (md := .any) hB.1 (l.take m) 0 (Array.replicate m false) a (by simp) (by have := hB.2; simpa [hlen, hml] using this) hwalk.out
    rwa [hlen] at this
  have hu : unl (Array.replicate m false) = m := by unfold unl; simp
  have main := done_any (P := P) (N := undef) ok hpost m (Array.replicate m false) a w (by simp) hu (fun q => absurd q (Nat.lt_irrefl _)) hC (by rw [rep_out _ _ _ (by omega)]; exact any)
  have e1 : m + (l.length - m) = l.toArray.size := by simp; omega
  have e2 : Array.replicate m false ++ Array.replicate (l.length - m) false = Array.replicate l.toArray.size false := by
    rw [Array.replicate_append_replicate]; congr 1
  rw [e1, e2] at main
  exact main
theorem qpw_regionR {n lo : Nat} {id : Nat} {l : List Oper} (m : Nat) (ok : QpOk l m m) {C : World → Prop} {Q : Exit → Act → World → Prop} {a : Act} {w : World} (hno : ¬ LetsOut Q) (ds : List (Option Tmp)) (vals : List Value) (hm : P.follows .mixedOrders = true) (hd : (l.all notD) = true)
    (hC : C w.drew) (hwalk : QW P (l.take m).toArray C (fun a' => a' = putAll a ds vals) (l.take m) a) (hpost : ∀ w, C w → wpList P l.toArray Q (l.drop m) (putAll a ds vals) w) : (Code.region id l.toArray true).wpIn (Fence.wide.inRound lo) n P Q a w :=
  region_round hno hm (by simpa using hd) (qpw_any m ok ds vals hC hwalk hpost)
end
theorem max_16 (a b : Int) (w : World) : (Builtin.max_ #[3, 3] 3 #[.int .i64 a, .int .i64 b]).run Try.prog w = .ok (.int .i64 (max a b)) w := by
  by_cases h : a ≤ b
  · rw [Int.max_eq_right h]
    by_cases h2 : a = b
    · subst h2; go_simp
    · have h3 : a < b := by omega
      go_simp
      try simp [*]
  · rw [Int.max_eq_left (by omega)]
    have h3 : ¬ a < b := by omega
    go_simp
    try simp [*]
theorem min_16 (a b : Int) (w : World) : (Builtin.min_ #[3, 3] 3 #[.int .i64 a, .int .i64 b]).run Try.prog w = .ok (.int .i64 (min a b)) w := by
  by_cases h : a ≤ b
  · rw [Int.min_eq_left h]
    by_cases h2 : a = b
    · subst h2; go_simp
    · have h3 : a < b := by omega
      go_simp
      try simp [*]
      try omega
  · rw [Int.min_eq_right (by omega)]
    have h3 : ¬ a < b := by omega
    have h4 : b < a := by omega
    go_simp
    try simp [*]
end Go.Proofs.Ytdpfdlkaickkiaa
