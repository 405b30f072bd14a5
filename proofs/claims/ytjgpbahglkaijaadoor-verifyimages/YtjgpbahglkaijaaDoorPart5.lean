/-
  Part 5 of the proof: 5 texts, one behind the other.
-/
import Derived.Test.YtjgpbahglkaijaaDoorPart4
import Derived.Test.YtjgpbahglkaijaaDoorPart1
import Derived.Test.YtjgpbahglkaijaaDoorPart3
import Derived.Test.YtjgpbahglkaijaaDoorPart2
namespace Go.Proofs.YtjgpbahglkaijaaDoor
open Go.RowKit Go.Shelf
set_option linter.unusedSimpArgs false
set_option linter.unusedVariables false

theorem at_16 {W : World} {z : Nat} {cs : Array Value} {T : TypeId} (hz : W.heap[z]? = some (.cells cs T)) (j : Nat) (u : Value) (hj : cs[j]? = some u) : W.cell? ⟨z, j, none⟩ = some u := by
  simp [World.cell?, hz, hj]
theorem fr_16 {W : World} {z j : Nat} {cs : Array Value} {T : TypeId} (h : W.heap[z]? = some (.cells cs T)) : W.frozen? ⟨z, j, none⟩ = false := by simp [World.frozen?, h]
theorem set_16 {W : World} {P o : Nat} {cs : Array Value} {T : TypeId} (h : W.heap[P]? = some (.cells cs T)) (v : Value) : (W.setCell ⟨P, o, none⟩ v).heap[P]? = some (.cells (cs.setIfInBounds o v) T) := by
  simp [World.setCell, Array.getElem?_modify, h]
theorem lt_16 {w : World} {z : Nat} {o : Obj} (hz : w.heap[z]? = some o) : z < w.heap.size := (Array.getElem?_eq_some_iff.1 hz).1
theorem far_16 {W : World} {z P o : Nat} {v : Value} (h : z ≠ P) : (W.setCell ⟨P, o, none⟩ v).heap[z]? = W.heap[z]? := Below.heap_setCell W ⟨P, o, none⟩ v z h
theorem new_16 (W : World) (o : Obj) : (W.alloc o).heap[W.heap.size]? = some o := World.alloc_heap_new W o
theorem old_16 {W : World} (o : Obj) {z : Nat} {x : Obj} (h : W.heap[z]? = some x) : (W.alloc o).heap[z]? = some x := (Below.heap_alloc W o z (lt_16 h)).trans h
theorem blk_16 {W W' : World} {row : Option Nat} (hg : W.grownBy W' row) (hr : ∀ r, row = some r → ∃ o : Obj, W.heap[r]? = some o ∧ o.isCells = false) {z : Nat} {cs : Array Value} {T : TypeId} {fr : Nat × Nat} (h : W.heap[z]? = some (.cells cs T fr)) : W'.heap[z]? = some (.cells cs T fr) := by
  refine (hg.block z (lt_16 h) (fun e => ?_)).trans h
  obtain ⟨o, h1, h2⟩ := hr z e.symm
  rw [h] at h1
  cases h1
  cases h2
def KX (X : Nat → Prop) (V U : World) : Prop := V.heap.size ≤ U.heap.size ∧ ∀ z, z < V.heap.size → ¬ X z → U.heap[z]? = V.heap[z]?
theorem KX.refl (X : Nat → Prop) (V : World) : KX X V V := ⟨Nat.le_refl _, fun _ _ _ => rfl⟩
theorem KX.trans {X : Nat → Prop} {A B C : World} (h : KX X A B) (g : KX X B C) : KX X A C := ⟨Nat.le_trans h.1 g.1, fun z h1 h2 => (g.2 z (Nat.lt_of_lt_of_le h1 h.1) h2).trans (h.2 z h1 h2)⟩
theorem KX.below {X : Nat → Prop} {V U U' : World} (h : KX X V U) (hb : Below U.heap.size U U') : KX X V U' := ⟨Nat.le_trans h.1 hb.size, fun z h1 h2 => (hb.block z (Nat.lt_of_lt_of_le h1 h.1)).trans (h.2 z h1 h2)⟩
theorem KX.set {X : Nat → Prop} {V U : World} (h : KX X V U) (b o : Nat) (u : Value) (hb : X b ∨ V.heap.size ≤ b) : KX X V (U.setCell ⟨b, o, none⟩ u) := ⟨by simpa using h.1, fun z h1 h2 => (far_16 (by rintro rfl; rcases hb with q | q; exact h2 q; omega)).trans (h.2 z h1 h2)⟩
theorem KX.own {β : Type} {X : Nat → Prop} {B : Nat} {V : World} (hV : V.heap.size ≤ B) : OwnFrom B (fun (_ : β) U => KX X V U) := fun s A A' row hs hg hr => ⟨Nat.le_trans hs.1 hg.size, fun z h1 h2 => (hg.block z (Nat.lt_of_lt_of_le h1 hs.1) (fun e => by have := (hr z e.symm).1; omega)).trans (hs.2 z h1 h2)⟩
theorem wl_nil16 {P : Program} {ops : Array Oper} {Q : Exit → Act → World → Prop} {a : Act} {w : World} (h : wpList P ops Q [] a w) : Q .normal a w := h
def MkS (B : Nat) (ls : List Nat) (W : World) : Prop := ls.Nodup ∧ ∀ D ∈ ls, B ≤ D ∧ W.heap[D]? = some (.deferred (some []))
theorem MkS.nil (B : Nat) (W : World) : MkS B [] W := ⟨List.nodup_nil, fun D hD => by cases hD⟩
theorem MkS.cons {B : Nat} {ls : List Nat} {V U : World} {X : Nat → Prop} {D : Nat} (h : MkS B ls V) (hk : KX X V U) (hX : ∀ z, X z → z < B) (h1 : V.heap.size ≤ D) (hB : B ≤ V.heap.size) (h2 : U.heap[D]? = some (.deferred (some []))) : MkS B (D :: ls) U := by
  have hlt : ∀ E ∈ ls, E < V.heap.size := fun E hE => lt_16 (h.2 E hE).2
  refine ⟨List.nodup_cons.mpr ⟨fun hm => by have := hlt D hm; omega, h.1⟩, fun E hE => ?_⟩
  rcases List.mem_cons.mp hE with rfl | hE
  · exact ⟨by omega, h2⟩
  · exact ⟨(h.2 E hE).1, (hk.2 E (hlt E hE) (fun q => by have := hX E q; have := (h.2 E hE).1; omega)).trans (h.2 E hE).2⟩
theorem MkS.keep {B : Nat} {ls : List Nat} {V U : World} {X : Nat → Prop} (h : MkS B ls V) (hk : KX X V U) (hX : ∀ z, X z → z < B) : MkS B ls U :=
  ⟨h.1, fun E hE => ⟨(h.2 E hE).1, (hk.2 E (lt_16 (h.2 E hE).2) (fun q => by have := hX E q; have := (h.2 E hE).1; omega)).trans (h.2 E hE).2⟩⟩
theorem wpList_make16 {P : Program} (w : World) {ops : Array Oper} {rest : List Oper} {o : Oper} {a : Act} {Q : Exit → Act → World → Prop}
    (hg : o.guard = none) (l c : Operand) (t : TypeId) (hop : o.op = Op.makeSlice t l c)
    (e : TypeId) (i : TypeInfo) (z : Value) (h1 : P.underlying t = some (.slice e)) (h2 : P.info? e = some i) (h3 : i.zero = some z)
    (kl kc : IntKind) (L C : Int) (n m : Nat) (hl : a.eval l = .int kl L) (hc : a.eval c = .int kc C) (hL : L = (n : Int)) (hC : C = (m : Int)) (hnm : n ≤ m) (b2 : i.bytes * m ≤ 281474976710656) (b3 : m ≤ maxLen)
    (hK : wpList P ops Q rest (a.put o.dst (.slice (some ⟨w.heap.size, 0, none⟩) n m)) (w.alloc (.cells (madeCells z.cells (m * i.size)) e))) :
    wpList P ops Q (o :: rest) a w := by
  refine wpList_plain hg fun K hK' => ?_
  have h63' : (m : Int) ≤ 9223372036854775807 := by
    have h := b3
    simp [maxLen] at h
    omega
  have hb' : (i.bytes : Int) * (m : Int) ≤ 281474976710656 := by
    have h : ((i.bytes * m : Nat) : Int) ≤ 281474976710656 := by omega
    rwa [Int.natCast_mul] at h
  have hr := run_make (P := P) w t e i z h1 h2 h3 kl kc n m (by omega) (by omega) hb' h63'
  simp only [Int.toNat_natCast] at hr
  subst hL
  subst hC
  unfold Oper.wp
  simp [execOp, hop, hl, hc, hr, Result.andThen]
  exact hK' _ _ hK
theorem made_one16 (z : Value) (n : Nat) : madeCells #[z] n = (List.replicate n z).toArray := by
  rw [← toList_madeCells_one]
theorem own_base16 {w : World} {base base' e size n : Nat} {v : Value} {xs : List Value} (h : w.ownsRow base e size v n xs) (hb : base' ≤ base) : w.ownsRow base' e size v n xs := by
  refine ⟨h.1, ?_⟩
  rcases h.2 with hn | ⟨g, cap, cur, hv, h1, h2⟩
  · exact .inl hn
  · exact .inr ⟨g, cap, cur, hv, by omega, h2⟩
end Go.Proofs.YtjgpbahglkaijaaDoor
namespace Go.Proofs.YtjgpbahglkaijaaDoor
open Go.RowKit
set_option linter.unusedSimpArgs false
set_option linter.unusedVariables false

theorem and255 (n : Nat) (h : n < 4294967296) : bits .and .u32 (n : Int) 255 = ((n % 256 : Nat) : Int) := by
  have e : (255 : Int) = uI 255#32 := lit32 255 (by decide)
  have h1 : (n : Int) = uI (BitVec.ofNat 32 n) := lit32 n h
  rw [e, h1, and32, uI_eq, BitVec.toNat_and, BitVec.toNat_ofNat, BitVec.toNat_ofNat]
  have h2 : n &&& 255 = n % 256 := Nat.and_two_pow_sub_one_eq_mod n 8
  have h3 : (2 : Nat) ^ 32 = 4294967296 := by decide
  rw [h3, Nat.mod_eq_of_lt h, show 255 % 4294967296 = 255 from rfl, h2]
theorem pop_at (b : Nat) (h : b < 256) : Lib.pop8 (b : Int) = ((bsN 8 b : Nat) : Int) := by
  rw [Lib.pop8_eq ⟨b, h⟩, ones8 b h]
set_option maxRecDepth 100000 in
set_option maxHeartbeats 8000000 in
theorem onesCount_any (x : BitVec 32) (w : World) :
    Calls Tryd.prog 76 #[.int .u32 (uI x)] w fun e w' => e = .returned (.int .i64 ((on32 x : Nat) : Int)) ∧ Below w.heap.size w w' := by
  have hx := x.isLt
  rw [uI_eq]
  unfold on32
  generalize x.toNat = n at hx
  have hs := bs32 n hx
  obtain ⟨N, hN⟩ : ∃ N : Int, N = (n : Int) := ⟨_, rfl⟩
  obtain ⟨b3, h3⟩ : ∃ b : Int, b = ((n / 16777216 : Nat) : Int) := ⟨_, rfl⟩
  obtain ⟨b2, h2⟩ : ∃ b : Int, b = ((n / 65536 % 256 : Nat) : Int) := ⟨_, rfl⟩
  obtain ⟨b1, h1⟩ : ∃ b : Int, b = ((n / 256 % 256 : Nat) : Int) := ⟨_, rfl⟩
  obtain ⟨b0, h0⟩ : ∃ b : Int, b = ((n % 256 : Nat) : Int) := ⟨_, rfl⟩
  obtain ⟨q3, e3⟩ : ∃ q : Int, q = ((bsN 8 (n / 16777216) : Nat) : Int) := ⟨_, rfl⟩
  obtain ⟨q2, e2⟩ : ∃ q : Int, q = ((bsN 8 (n / 65536 % 256) : Nat) : Int) := ⟨_, rfl⟩
  obtain ⟨q1, e1⟩ : ∃ q : Int, q = ((bsN 8 (n / 256 % 256) : Nat) : Int) := ⟨_, rfl⟩
  obtain ⟨q0, e0⟩ : ∃ q : Int, q = ((bsN 8 (n % 256) : Nat) : Int) := ⟨_, rfl⟩
  have l3 := bsN_le 8 (n / 16777216)
  have l2 := bsN_le 8 (n / 65536 % 256)
  have l1 := bsN_le 8 (n / 256 % 256)
  have l0 := bsN_le 8 (n % 256)
  have f3 : N / 16777216 = b3 := by rw [h3, hN]; omega
  have f2 : bits .and .u32 (N / 65536) 255 = b2 := by rw [h2, hN, show (n : Int) / 65536 = ((n / 65536 : Nat) : Int) by omega, and255 _ (by omega)]
  have f1 : bits .and .u32 (N / 256) 255 = b1 := by rw [h1, hN, show (n : Int) / 256 = ((n / 256 : Nat) : Int) by omega, and255 _ (by omega)]
  have f0 : bits .and .u32 N 255 = b0 := by rw [h0, hN, and255 _ (by omega)]
  have p3 : Lib.pop8 b3 = q3 := by rw [h3, e3]; exact pop_at _ (by omega)
  have p2 : Lib.pop8 b2 = q2 := by rw [h2, e2]; exact pop_at _ (by omega)
  have p1 : Lib.pop8 b1 = q1 := by rw [h1, e1]; exact pop_at _ (by omega)
  have p0 : Lib.pop8 b0 = q0 := by rw [h0, e0]; exact pop_at _ (by omega)
  have HE : Hid (q3 + q2 + q1 + q0 = ((bsN 32 n : Nat) : Int)) := by show _ = _; omega
  have B3 : 0 ≤ b3 ∧ b3 ≤ 255 := by omega
  have B2 : 0 ≤ b2 ∧ b2 ≤ 255 := by omega
  have B1 : 0 ≤ b1 ∧ b1 ≤ 255 := by omega
  have B0 : 0 ≤ b0 ∧ b0 ≤ 255 := by omega
  have Q3 : 0 ≤ q3 ∧ q3 ≤ 8 := by omega
  have Q2 : 0 ≤ q2 ∧ q2 ≤ 8 := by omega
  have Q1 : 0 ≤ q1 ∧ q1 ≤ 8 := by omega
  have Q0 : 0 ≤ q0 ∧ q0 ≤ 8 := by omega
  rw [← hN, ← HE.out]
  clear hs hN h3 h2 h1 h0 e3 e2 e1 e0 l3 l2 l1 l0 hx HE
  obtain ⟨B3a, B3b⟩ := B3
  obtain ⟨B2a, B2b⟩ := B2
  obtain ⟨B1a, B1b⟩ := B1
  obtain ⟨B0a, B0b⟩ := B0
  obtain ⟨Q3a, Q3b⟩ := Q3
  obtain ⟨Q2a, Q2b⟩ := Q2
  obtain ⟨Q1a, Q1b⟩ := Q1
  obtain ⟨Q0a, Q0b⟩ := Q0
  go_enter Tryd.func76, Tryd.ntmps76
  go_wp2_with fail
  go_quiet (fail)
  have HB : Hid (Below w.heap.size w (w.drewN nq)) := below_drewN (Below.refl _ _) nq
  go_wp2
  go_ret
  exact ⟨rfl, HB.out⟩
theorem sumW_le (U : List (BitVec 32)) : ∀ a, sumW U a ≤ 32 * a
  | 0 => Nat.le_refl _
  | a + 1 => by
    have h1 := sumW_le U a
    have h2 := bsN_le 32 (U.getD a 0#32).toNat
    simp only [sumW]
    unfold on32
    omega
set_option maxRecDepth 100000 in
set_option maxHeartbeats 8000000 in
theorem ones_any (v : Value) (U : List (BitVec 32)) (w : World) (hv : RwX cU w v U) (hl : U.length ≤ 100000000000000) :
    Calls Tryd.prog 73 #[v] w fun e w' => e = .returned (.int .i64 ((sumW U U.length : Nat) : Int)) ∧ Below w.heap.size w w' := by
  obtain ⟨ao, cc, rfl, -, hv⟩ := hv
  have HV := hid13 hv
  have HL := hid13 hl
  have HB := hid13 (Below.refl w.heap.size w)
  clear hv hl
  go_enter Tryd.func73, Tryd.ntmps73
  go_wp2_with fail
  go_loopg [3, 5, 8] U.length (fun g n x i wr => ∃ k m : Nat, k + g = U.length ∧ i = .int .i64 (k : Int) ∧ n = .int .i64 (m : Int) ∧ Hid (m = sumW U k) ∧ Hid (Below w.heap.size w wr))
  case atStart => exact ⟨0, 0, by omega, rfl, rfl, rfl, HB⟩
  case round =>
    clear HB
    obtain ⟨k, m, hk, rfl, rfl, HM, HB⟩ := hrel
    by_cases hlt : k < U.length
    · have hli : (k : Int) < (U.length : Int) := by omega
      obtain ⟨bo, off, rfl, hc1⟩ : ∃ bo off, ao = some ⟨bo, off, none⟩ ∧ ∀ j x, U[j]? = some x → w.cell? ⟨bo, off + j, none⟩ = some (cU x) := by
        rcases HV.out with h | h
        · rw [h] at hlt; simp at hlt
        · exact h
      obtain ⟨x, hx⟩ : ∃ x, U[k]? = some x := ⟨U[k], by simp [hlt]⟩
      have r1 : wr.cell? ⟨bo, off + k, none⟩ = some (.int .u32 (uI x)) := keepc HB.out (hc1 k x hx)
      have mk : IntKind.i64.wrap ((k : Int) + 1) = (k : Int) + 1 := by have := HL.out; rw [IntKind.wrap_i64]; omega
      have hon := bsN_le 32 x.toNat
      have hsm := sumW_le U k
      obtain ⟨o, ho⟩ : ∃ o, o = on32 x := ⟨_, rfl⟩
      have HE : Hid (m + o = sumW U (k + 1)) := by
        show _ = _
        simp only [sumW]
        rw [List.getD_eq_getElem?_getD, hx, Option.getD_some, ← ho, HM.out]
      have ms : IntKind.i64.wrap ((m : Int) + (o : Int)) = (m : Int) + (o : Int) := by
        have h1 := HM.out
        have h2 := HL.out
        unfold on32 at ho
        rw [IntKind.wrap_i64]; omega
      have HK : Hid (k + gk = U.length ∧ k < U.length) := ⟨hk, hlt⟩
      have KO := fun W => onesCount_any x W
      rw [← ho] at KO
      clear hc1 hx hk hon hsm HM ho
      go_wp2_with (go_at_call 76; refine (KO _).mono ?_; rintro e w1 ⟨rfl, hb1⟩; have HB1 := hid13 (keepb hb1 HB.out); clear hb1)
      go_roundg (gk - 1)
      case measure => have := HK.out; omega
      case rel => exact ⟨k + 1, m + o, by have := HK.out; omega, rfl, rfl, HE, HB1⟩
    · have hli : ¬ (k : Int) < (U.length : Int) := by omega
      obtain rfl : k = U.length := by omega
      go_wp2_with fail
      go_ret
      exact ⟨by rw [← HM.out]; rfl, HB.out⟩
end Go.Proofs.YtjgpbahglkaijaaDoor
namespace Go.Proofs.YtjgpbahglkaijaaDoor
open Go.RowKit
set_option linter.unusedSimpArgs false
set_option linter.unusedVariables false

theorem own_typed18 {W : World} {base e size n : Nat} {v : Value} {xs : List Value} (h : W.ownsRow base e size v n xs) (z : Nat) (hz : v.ownBlock = some z) : ∃ cs, W.heap[z]? = some (.cells cs e) := by
  rcases h.2 with ⟨e0, _⟩ | ⟨g, cap, cur, e0, hb, hg, rest⟩
  · rw [e0] at hz; cases hz
  · rw [e0] at hz
    have q : g = z := by simpa [Value.ownBlock] using hz
    subst q
    exact ⟨_, hg⟩
theorem own_not18 {W : World} {base e size n : Nat} {v : Value} {xs : List Value} (h : W.ownsRow base e size v n xs) {z : Nat} {cs : Array Value} {T : TypeId} {fr : Nat × Nat} (hz : W.heap[z]? = some (.cells cs T fr)) (he : e ≠ T) : v.ownBlock ≠ some z := by
  intro q
  obtain ⟨cs', h2⟩ := own_typed18 h z q
  rw [h2] at hz
  injection hz with hz
  injection hz with _ h2 _
  exact he h2
theorem own_keep18 {W W' : World} {base e size n : Nat} {v : Value} {xs : List Value} (h : W.ownsRow base e size v n xs) (he : ∀ g, v.ownBlock = some g → W'.heap[g]? = W.heap[g]?) : W'.ownsRow base e size v n xs := by
  refine ⟨h.1, ?_⟩
  rcases h.2 with hn | ⟨g, cap, cur, rfl, hb, hg, rest⟩
  · exact .inl hn
  · exact .inr ⟨g, cap, cur, rfl, hb, by rw [he g rfl]; exact hg, rest⟩
theorem own_put3 {W : World} {base e size n B : Nat} {v : Value} {xs : List Value} (h : W.ownsRow base e size v n xs) (hv : v.ownBlock ≠ some B) (u0 u1 u2 : Value) : (((W.setCell ⟨B, 0, none⟩ u0).setCell ⟨B, 1, none⟩ u1).setCell ⟨B, 2, none⟩ u2).ownsRow base e size v n xs :=
  own_keep18 h (fun g e => (far_16 (fun q => hv (by rw [← q]; exact e))).trans ((far_16 (fun q => hv (by rw [← q]; exact e))).trans (far_16 (fun q => hv (by rw [← q]; exact e)))))
theorem gh_same18 {x y : Array Value} {d e f s : Nat} (h : ((x.toList.set e undef).set f undef).eraseIdx d = ((y.toList.set e undef).set f undef).eraseIdx d) (hs : s ≠ d) (ht : s ≠ e) (hu : s ≠ f) : x[s]? = y[s]? := by
  have := erase_get _ _ d s h hs
  rw [List.getElem?_set_ne (Ne.symm hu), List.getElem?_set_ne (Ne.symm hu), List.getElem?_set_ne (Ne.symm ht), List.getElem?_set_ne (Ne.symm ht)] at this
  simpa using this
end Go.Proofs.YtjgpbahglkaijaaDoor
namespace Go.Proofs.YtjgpbahglkaijaaDoor
open Go.RowKit
set_option linter.unusedSimpArgs false
set_option linter.unusedVariables false

def rowE8 : List (Bool × Int) → List Value
  | [] => []
  | e :: t => .bool e.1 :: .int .i64 e.2 :: rowE8 t
theorem rowE8_app : ∀ (A : List (Bool × Int)) (e : Bool × Int), rowE8 (A ++ [e]) = rowE8 A ++ [.bool e.1, .int .i64 e.2]
  | [], e => rfl
  | x :: A, e => by
    show _ :: _ :: rowE8 (A ++ [e]) = _
    rw [rowE8_app A e]; rfl
theorem rowE8_get : ∀ (A : List (Bool × Int)) (j : Nat) (e : Bool × Int), A[j]? = some e → (rowE8 A)[j * 2]? = some (.bool e.1) ∧ (rowE8 A)[j * 2 + 1]? = some (.int .i64 e.2)
  | [], j, e, h => by simp at h
  | x :: A, 0, e, h => by simp at h; subst h; exact ⟨rfl, rfl⟩
  | x :: A, j + 1, e, h => by
    have := rowE8_get A j e (by simpa using h)
    rw [show (j + 1) * 2 = j * 2 + 2 by omega]
    exact this
theorem rowE8_set : ∀ (A : List (Bool × Int)) (j : Nat) (e : Bool × Int) (n : Int), A[j]? = some e → (rowE8 A).set (j * 2 + 1) (.int .i64 n) = rowE8 (A.set j (e.1, n))
  | [], j, e, n, h => by simp at h
  | x :: A, 0, e, n, h => by simp at h; subst h; rfl
  | x :: A, j + 1, e, n, h => by
    have := rowE8_set A j e n (by simpa using h)
    rw [show (j + 1) * 2 + 1 = (j * 2 + 1) + 2 by omega]
    show _ :: _ :: (rowE8 A).set (j * 2 + 1) (.int .i64 n) = _
    rw [this]; rfl
structure Bv where
  a : Int
  t : Int
  vs : Value
  ve : Value
def rowB8 : List Bv → List Value
  | [] => []
  | x :: t => .int .i64 x.a :: .int .i64 x.t :: x.vs :: x.ve :: rowB8 t
theorem rowB8_app : ∀ (A : List Bv) (x : Bv), rowB8 (A ++ [x]) = rowB8 A ++ [.int .i64 x.a, .int .i64 x.t, x.vs, x.ve]
  | [], e => rfl
  | y :: A, e => by
    show _ :: _ :: _ :: _ :: rowB8 (A ++ [e]) = _
    rw [rowB8_app A e]; rfl
theorem rowB8_get : ∀ (A : List Bv) (j : Nat) (x : Bv), A[j]? = some x → (rowB8 A)[j * 4]? = some (.int .i64 x.a) ∧ (rowB8 A)[j * 4 + 1]? = some (.int .i64 x.t) ∧ (rowB8 A)[j * 4 + 2]? = some x.vs ∧ (rowB8 A)[j * 4 + 3]? = some x.ve
  | [], j, e, h => by simp at h
  | y :: A, 0, e, h => by simp at h; subst h; exact ⟨rfl, rfl, rfl, rfl⟩
  | y :: A, j + 1, e, h => by
    have := rowB8_get A j e (by simpa using h)
    rw [show (j + 1) * 4 = j * 4 + 4 by omega]
    exact this
theorem rowB8_set2 : ∀ (A : List Bv) (j : Nat) (x : Bv) (v : Value), A[j]? = some x → (rowB8 A).set (j * 4 + 2) v = rowB8 (A.set j { x with vs := v })
  | [], j, e, n, h => by simp at h
  | x :: A, 0, e, n, h => by simp at h; subst h; rfl
  | x :: A, j + 1, e, n, h => by
    have := rowB8_set2 A j e n (by simpa using h)
    rw [show (j + 1) * 4 + 2 = (j * 4 + 2) + 4 by omega]
    show _ :: _ :: _ :: _ :: (rowB8 A).set (j * 4 + 2) n = _
    rw [this]; rfl
theorem rowB8_set3 : ∀ (A : List Bv) (j : Nat) (x : Bv) (v : Value), A[j]? = some x → (rowB8 A).set (j * 4 + 3) v = rowB8 (A.set j { x with ve := v })
  | [], j, e, n, h => by simp at h
  | x :: A, 0, e, n, h => by simp at h; subst h; rfl
  | x :: A, j + 1, e, n, h => by
    have := rowB8_set3 A j e n (by simpa using h)
    rw [show (j + 1) * 4 + 3 = (j * 4 + 3) + 4 by omega]
    show _ :: _ :: _ :: _ :: (rowB8 A).set (j * 4 + 3) n = _
    rw [this]; rfl
theorem own_put18 {W : World} {base e size n g cap j : Nat} {xs : List Value} (h : W.ownsRow base e size (.slice (some ⟨g, 0, none⟩) n cap) n xs) (u : Value) (hj : j < n * size) : (W.setCell ⟨g, j, none⟩ u).ownsRow base e size (.slice (some ⟨g, 0, none⟩) n cap) n (xs.set j u) := by
  obtain ⟨h1, h2⟩ := h
  rcases h2 with ⟨h2, -⟩ | ⟨g', cap', cur, e0, hb, hg, hn, hm, hs, ht⟩
  · cases h2
  · injection e0 with e1 e2 e3
    injection e1 with e1
    injection e1 with e1
    subst e1 e3
    refine ⟨by simpa using h1, .inr ⟨g, cap, cur.setIfInBounds j u, rfl, hb, set_16 hg u, hn, hm, by simpa using hs, ?_⟩⟩
    rw [Array.toList_setIfInBounds, List.take_set, ht]
theorem own_some18 {W : World} {base e size n : Nat} {v : Value} {xs : List Value} (h : W.ownsRow base e size v n xs) (hn : 0 < n) : ∃ g cap, v = .slice (some ⟨g, 0, none⟩) n cap ∧ n ≤ cap := by
  rcases h.2 with ⟨-, h2⟩ | ⟨g, cap, cur, e0, hb, hg, hc, -⟩
  · omega
  · exact ⟨g, cap, e0, hc⟩
theorem own_at18 {W : World} {base e size n g cap : Nat} {xs : List Value} (h : W.ownsRow base e size (.slice (some ⟨g, 0, none⟩) n cap) n xs) {j : Nat} {u : Value} (hj : xs[j]? = some u) : W.cell? ⟨g, j, none⟩ = some u ∧ W.frozen? ⟨g, j, none⟩ = false := by
  have hc := h.cells (g := g) rfl j u hj
  rw [addA, Nat.zero_add] at hc
  obtain ⟨cs, h2⟩ := own_typed18 h g rfl
  exact ⟨hc, fr_16 h2⟩
def vTy (T : TypeId) : Prop := T = 93 ∨ T = 124 ∨ T = 126
def Kt (W W' : World) : Prop := W.heap.size ≤ W'.heap.size ∧ ∀ (z : Nat) (cs : Array Value) (T : TypeId) (fr : Nat × Nat), W.heap[z]? = some (.cells cs T fr) → ¬ vTy T → W'.heap[z]? = some (.cells cs T fr)
theorem Kt.refl (W : World) : Kt W W := ⟨Nat.le_refl _, fun _ _ _ _ h _ => h⟩
theorem Kt.trans {A B C : World} (h : Kt A B) (g : Kt B C) : Kt A C := ⟨Nat.le_trans h.1 g.1, fun z cs T fr h1 h2 => g.2 z cs T fr (h.2 z cs T fr h1 h2) h2⟩
theorem Kt.below {W W' : World} (hb : Below W.heap.size W W') : Kt W W' := ⟨hb.size, fun z cs T fr h1 _ => (hb.block z (lt_16 h1)).trans h1⟩
theorem Kt.set {W : World} {z o : Nat} {cs : Array Value} {T : TypeId} (hz : W.heap[z]? = some (.cells cs T)) (hT : vTy T) (u : Value) : Kt W (W.setCell ⟨z, o, none⟩ u) := by
  refine ⟨by simp, fun z' cs' T' fr' h1 h2 => ?_⟩
  rw [far_16 (fun q => by subst q; rw [hz] at h1; injection h1 with h1; injection h1 with _ h3 _; subst h3; exact h2 hT)]
  exact h1
theorem Kt.grown {W W' : World} {base e size n : Nat} {v : Value} {xs : List Value} (h : W.ownsRow base e size v n xs) (he : vTy e) (hg : W.grownBy W' v.ownBlock) : Kt W W' := by
  refine ⟨hg.size, fun z cs T fr h1 h2 => ?_⟩
  rw [hg.block z (lt_16 h1) (fun q => ?_)]
  · exact h1
  · obtain ⟨cs', h3⟩ := own_typed18 h z q.symm
    rw [h3] at h1
    injection h1 with h1
    injection h1 with _ h4 _
    subst h4
    exact h2 he
def BkO (W : World) (base : Nat) (x : Bv) (p : PB) : Prop := x.a = p.a ∧ x.t = p.t ∧ W.ownsRow base 52 1 x.vs p.m.length (p.m.map cU) ∧ W.ownsRow base 126 2 x.ve p.es.length (rowE8 p.es)
structure BsV (W : World) (base : Nat) (vb : Value) (L : List Bv) (P : List PB) : Prop where
  o : W.ownsRow base 124 4 vb L.length (rowB8 L)
  l : L.length = P.length
  m : ∀ (k : Nat) (x : Bv) (p : PB), L[k]? = some x → P[k]? = some p → BkO W base x p
  d : ∀ (j k : Nat) (x y : Bv) (z : Nat), L[j]? = some x → L[k]? = some y → x.ve.ownBlock = some z → y.ve.ownBlock = some z → j = k
section
variable {W W' : World} {base : Nat} {vb : Value} {L : List Bv} {P : List PB} {x : Bv} {p : PB}
theorem BkO.keep (h : BkO W base x p) (h1 : ∀ z, x.vs.ownBlock = some z → W'.heap[z]? = W.heap[z]?) (h2 : ∀ z, x.ve.ownBlock = some z → W'.heap[z]? = W.heap[z]?) : BkO W' base x p := ⟨h.1, h.2.1, own_keep18 h.2.2.1 h1, own_keep18 h.2.2.2 h2⟩
theorem BkO.below (h : BkO W base x p) (hb : Below W.heap.size W W') : BkO W' base x p := h.keep (fun z e => hb.block z (h.2.2.1.lt z e).2) (fun z e => hb.block z (h.2.2.2.lt z e).2)
theorem BsV.below (h : BsV W base vb L P) (hb : Below W.heap.size W W') : BsV W' base vb L P := ⟨own_b13 hb h.o, h.l, fun k x p h1 h2 => (h.m k x p h1 h2).below hb, h.d⟩
theorem BsV.get (h : BsV W base vb L P) {k : Nat} {p : PB} (hp : P[k]? = some p) : ∃ x, L[k]? = some x ∧ BkO W base x p := by
  have h1 : k < L.length := by rw [h.l]; exact (List.getElem?_eq_some_iff.mp hp).1
  exact ⟨L[k], List.getElem?_eq_getElem h1, h.m k _ p (List.getElem?_eq_getElem h1) hp⟩
theorem BsV.far (h : BsV W base vb L P) {z o : Nat} {cs : Array Value} {T : TypeId} {fr : Nat × Nat} (hz : W.heap[z]? = some (.cells cs T fr)) (h1 : 124 ≠ T) (h2 : 52 ≠ T) (h3 : 126 ≠ T) (u : Value) : BsV (W.setCell ⟨z, o, none⟩ u) base vb L P := by
  have hk : ∀ y, y ≠ z → (W.setCell ⟨z, o, none⟩ u).heap[y]? = W.heap[y]? := fun y q => far_16 q
  refine ⟨own_keep18 h.o (fun g e => hk g (fun q => own_not18 h.o hz h1 (q ▸ e))), h.l, fun k x p q1 q2 => ?_, h.d⟩
  have hx := h.m k x p q1 q2
  exact hx.keep (fun g e => hk g (fun q => own_not18 hx.2.2.1 hz h2 (q ▸ e))) (fun g e => hk g (fun q => own_not18 hx.2.2.2 hz h3 (q ▸ e)))
theorem BsV.push {g cap : Nat} (h : BsV W base vb L P) (hg : W.grownBy W' vb.ownBlock) (a t : Int) (ho : W'.ownsRow base 124 4 (.slice (some ⟨g, 0, none⟩) (L.length + 1) cap) (L.length + 1) (rowB8 L ++ [.int .i64 a, .int .i64 t, .slice none 0 0, .slice none 0 0])) :
    BsV W' base (.slice (some ⟨g, 0, none⟩) (L.length + 1) cap) (L ++ [⟨a, t, .slice none 0 0, .slice none 0 0⟩]) (P ++ [⟨a, t, [], []⟩]) := by
  have hl : (L ++ [(⟨a, t, .slice none 0 0, .slice none 0 0⟩ : Bv)]).length = L.length + 1 := by simp
  refine ⟨by rw [hl, rowB8_app]; exact ho, by simp [h.l], fun k x p h1 h2 => ?_, fun j k x y z h1 h2 h3 h4 => ?_⟩
  · by_cases hk : k < L.length
    · rw [List.getElem?_append_left hk] at h1
      rw [List.getElem?_append_left (by rw [← h.l]; exact hk)] at h2
      have hx := h.m k x p h1 h2
      refine hx.keep (fun z e => hg.block z (hx.2.2.1.lt z e).2 (fun q => ?_)) (fun z e => hg.block z (hx.2.2.2.lt z e).2 (fun q => ?_))
      · obtain ⟨cs, hc⟩ := own_typed18 hx.2.2.1 z e
        exact own_not18 h.o hc (by decide) q.symm
      · obtain ⟨cs, hc⟩ := own_typed18 hx.2.2.2 z e
        exact own_not18 h.o hc (by decide) q.symm
    · have hk' : k = L.length := by have := (List.getElem?_eq_some_iff.mp h1).1; rw [hl] at this; omega
      subst hk'
      rw [List.getElem?_append_right (Nat.le_refl _), Nat.sub_self] at h1
      rw [h.l, List.getElem?_append_right (Nat.le_refl _), Nat.sub_self] at h2
      simp at h1 h2
      subst h1 h2
      exact ⟨rfl, rfl, World.ownsRow_nil _ _ _ _, World.ownsRow_nil _ _ _ _⟩
  · have key : ∀ (i : Nat) (x : Bv), (L ++ [(⟨a, t, .slice none 0 0, .slice none 0 0⟩ : Bv)])[i]? = some x → x.ve.ownBlock = some z → L[i]? = some x := fun i x q1 q2 => by
      by_cases hi : i < L.length
      · rwa [List.getElem?_append_left hi] at q1
      · have hi' : i = L.length := by have := (List.getElem?_eq_some_iff.mp q1).1; rw [hl] at this; omega
        subst hi'
        rw [List.getElem?_append_right (Nat.le_refl _), Nat.sub_self] at q1
        simp at q1
        subst q1
        cases q2
    exact h.d j k x y z (key j x h1 h3) (key k y h2 h4) h3 h4
theorem BsV.slots {g n cap k : Nat} {x : Bv} {p : PB} (h : BsV W base (.slice (some ⟨g, 0, none⟩) n cap) L P) (hx : L[k]? = some x) (hp : P[k]? = some p) {vs : Value} {m : List (BitVec 32)} (ho : W.ownsRow base 52 1 vs m.length (m.map cU)) :
    BsV (W.setCell ⟨g, k * 4 + 2, none⟩ vs) base (.slice (some ⟨g, 0, none⟩) n cap) (L.set k { x with vs := vs }) (P.set k { p with m := m }) := by
  have hk := (List.getElem?_eq_some_iff.mp hx).1
  have hn : n = L.length := by obtain ⟨ao, c, e⟩ := own_form h.o; injection e
  obtain ⟨cs, hc⟩ := own_typed18 h.o g rfl
  have hf : ∀ y, y ≠ g → (W.setCell ⟨g, k * 4 + 2, none⟩ vs).heap[y]? = W.heap[y]? := fun y q => far_16 q
  subst hn
  refine ⟨?_, by simp [h.l], fun j y q h1 h2 => ?_, fun i j y y' z h1 h2 h3 h4 => ?_⟩
  · have := own_put18 h.o vs (j := k * 4 + 2) (by omega)
    rw [rowB8_set2 L k x vs hx] at this
    simpa using this
  · have base1 : ∀ (y : Bv) (q : PB), BkO W base y q → BkO (W.setCell ⟨g, k * 4 + 2, none⟩ vs) base y q := fun y q hy => hy.keep (fun z e => hf z (fun q' => own_not18 hy.2.2.1 hc (by decide) (q' ▸ e))) (fun z e => hf z (fun q' => own_not18 hy.2.2.2 hc (by decide) (q' ▸ e)))
    by_cases hj : k = j
    · subst hj
      rw [List.getElem?_set_self hk] at h1
      rw [List.getElem?_set_self (by rw [← h.l]; exact hk)] at h2
      injection h1 with h1
      injection h2 with h2
      subst h1 h2
      have hy := h.m k x p hx hp
      exact base1 _ _ ⟨hy.1, hy.2.1, ho, hy.2.2.2⟩
    · rw [List.getElem?_set_ne hj] at h1 h2
      exact base1 _ _ (h.m j y q h1 h2)
  · have key : ∀ (i : Nat) (y : Bv), (L.set k { x with vs := vs })[i]? = some y → ∃ y0, L[i]? = some y0 ∧ y0.ve = y.ve := fun i y q => by
      by_cases hj : k = i
      · subst hj
        rw [List.getElem?_set_self hk] at q
        injection q with q
        subst q
        exact ⟨x, hx, rfl⟩
      · rw [List.getElem?_set_ne hj] at q
        exact ⟨y, q, rfl⟩
    obtain ⟨y0, a1, a2⟩ := key i y h1
    obtain ⟨y1, b1, b2⟩ := key j y' h2
    exact h.d i j y0 y1 z a1 b1 (by rw [a2]; exact h3) (by rw [b2]; exact h4)
theorem BsV.ents {W0 : World} {g n cap k : Nat} {x : Bv} {p : PB} (h0 : BsV W0 base (.slice (some ⟨g, 0, none⟩) n cap) L P) (hx : L[k]? = some x) (hp : P[k]? = some p) (hg : W0.grownBy W x.ve.ownBlock) {ve : Value} {es : List (Bool × Int)} (ho : W.ownsRow base 126 2 ve es.length (rowE8 es)) (hat : ∀ z, ve.ownBlock = some z → x.ve.ownBlock = some z ∨ W0.heap.size ≤ z) :
    BsV (W.setCell ⟨g, k * 4 + 3, none⟩ ve) base (.slice (some ⟨g, 0, none⟩) n cap) (L.set k { x with ve := ve }) (P.set k { p with es := es }) := by
  have hk := (List.getElem?_eq_some_iff.mp hx).1
  have hn : n = L.length := by obtain ⟨ao, c, e⟩ := own_form h0.o; injection e
  have hxx := h0.m k x p hx hp
  obtain ⟨cs0, hc0⟩ := own_typed18 h0.o g rfl
  have hgn : x.ve.ownBlock ≠ some g := own_not18 hxx.2.2.2 hc0 (by decide)
  have hc : W.heap[g]? = some (.cells cs0 124) := (hg.block g (lt_16 hc0) (fun q => hgn q.symm)).trans hc0
  have ho1 : W.ownsRow base 124 4 (.slice (some ⟨g, 0, none⟩) n cap) L.length (rowB8 L) := own_keep18 h0.o (fun z e => hg.block z (h0.o.lt z e).2 (fun q => by
    have : g = z := by simpa [Value.ownBlock] using e
    subst this; exact hgn q.symm))
  have hf : ∀ y, y ≠ g → (W.setCell ⟨g, k * 4 + 3, none⟩ ve).heap[y]? = W.heap[y]? := fun y q => far_16 q
  subst hn
  refine ⟨?_, by simp [h0.l], fun j y q h1 h2 => ?_, fun i j y y' z h1 h2 h3 h4 => ?_⟩
  · have := own_put18 ho1 ve (j := k * 4 + 3) (by omega)
    rw [rowB8_set3 L k x ve hx] at this
    simpa using this
  · have base1 : ∀ (y : Bv) (q : PB), BkO W base y q → BkO (W.setCell ⟨g, k * 4 + 3, none⟩ ve) base y q := fun y q hy => hy.keep (fun z e => hf z (fun q' => own_not18 hy.2.2.1 hc (by decide) (q' ▸ e))) (fun z e => hf z (fun q' => own_not18 hy.2.2.2 hc (by decide) (q' ▸ e)))
    by_cases hj : k = j
    · subst hj
      rw [List.getElem?_set_self hk] at h1
      rw [List.getElem?_set_self (by rw [← h0.l]; exact hk)] at h2
      injection h1 with h1
      injection h2 with h2
      subst h1 h2
      refine base1 _ _ ⟨hxx.1, hxx.2.1, ?_, ho⟩
      exact own_keep18 hxx.2.2.1 (fun z e => hg.block z (hxx.2.2.1.lt z e).2 (fun q => by
        obtain ⟨cs, hc⟩ := own_typed18 hxx.2.2.1 z e
        exact own_not18 hxx.2.2.2 hc (by decide) q.symm))
    · rw [List.getElem?_set_ne hj] at h1 h2
      have hy := h0.m j y q h1 h2
      refine base1 _ _ (hy.keep (fun z e => hg.block z (hy.2.2.1.lt z e).2 (fun q => ?_)) (fun z e => hg.block z (hy.2.2.2.lt z e).2 (fun q => ?_)))
      · obtain ⟨cs, hc⟩ := own_typed18 hy.2.2.1 z e
        exact own_not18 hxx.2.2.2 hc (by decide) q.symm
      · exact hj (h0.d k j x y z hx h1 q.symm e)
  · have key : ∀ (i : Nat) (y : Bv), (L.set k { x with ve := ve })[i]? = some y → y.ve.ownBlock = some z → (i = k ∧ ve.ownBlock = some z) ∨ (i ≠ k ∧ L[i]? = some y) := fun i y q q2 => by
      by_cases hj : k = i
      · subst hj
        rw [List.getElem?_set_self hk] at q
        injection q with q
        subst q
        exact .inl ⟨rfl, q2⟩
      · rw [List.getElem?_set_ne hj] at q
        exact .inr ⟨fun e => hj e.symm, q⟩
    have clash : ∀ (i : Nat) (y : Bv), i ≠ k → L[i]? = some y → y.ve.ownBlock = some z → ve.ownBlock = some z → False := fun i y q1 q2 q3 q4 => by
      rcases hat z q4 with q | q
      · exact q1 (h0.d i k y x z q2 hx q3 q)
      · obtain ⟨p', hp'⟩ : ∃ p', P[i]? = some p' := ⟨_, List.getElem?_eq_getElem (by rw [← h0.l]; exact (List.getElem?_eq_some_iff.mp q2).1)⟩
        have := ((h0.m i y p' q2 hp').2.2.2.lt z q3).2
        omega
    rcases key i y h1 h3 with ⟨a1, a2⟩ | ⟨a1, a2⟩ <;> rcases key j y' h2 h4 with ⟨b1, b2⟩ | ⟨b1, b2⟩
    · omega
    · exact (clash j y' b1 b2 h4 a2).elim
    · exact (clash i y a1 a2 h3 b2).elim
    · exact h0.d i j y y' z a2 b2 h3 h4
theorem BsV.link {g cap k i : Nat} {x : Bv} {p : PB} {e : Bool × Int} (h : BsV W base vb L P) (hx : L[k]? = some x) (hp : P[k]? = some p) (hv : x.ve = .slice (some ⟨g, 0, none⟩) p.es.length cap) (he : p.es[i]? = some e) (n : Int) :
    BsV (W.setCell ⟨g, i * 2 + 1, none⟩ (.int .i64 n)) base vb L (P.set k { p with es := p.es.set i (e.1, n) }) := by
  have hk := (List.getElem?_eq_some_iff.mp hx).1
  have hxx := h.m k x p hx hp
  obtain ⟨cs, hc⟩ := own_typed18 hxx.2.2.2 g (by rw [hv]; rfl)
  have hf : ∀ y, y ≠ g → (W.setCell ⟨g, i * 2 + 1, none⟩ (.int .i64 n)).heap[y]? = W.heap[y]? := fun y q => far_16 q
  refine ⟨own_keep18 h.o (fun z e => hf z (fun q => own_not18 h.o hc (by decide) (q ▸ e))), by simp [h.l], fun j y q h1 h2 => ?_, h.d⟩
  by_cases hj : k = j
  · subst hj
    rw [List.getElem?_set_self (by rw [← h.l]; exact hk)] at h2
    rw [hx] at h1
    injection h1 with h1
    injection h2 with h2
    subst h1 h2
    refine ⟨hxx.1, hxx.2.1, own_keep18 hxx.2.2.1 (fun z e => hf z (fun q => own_not18 hxx.2.2.1 hc (by decide) (q ▸ e))), ?_⟩
    have ho := hxx.2.2.2
    rw [hv] at ho
    have := own_put18 ho (.int .i64 n) (j := i * 2 + 1) (by have := (List.getElem?_eq_some_iff.mp he).1; omega)
    rw [rowE8_set _ _ _ _ he] at this
    rw [hv]
    simpa using this
  · rw [List.getElem?_set_ne hj] at h2
    have hy := h.m j y q h1 h2
    refine hy.keep (fun z e => hf z (fun q' => own_not18 hy.2.2.1 hc (by decide) (q' ▸ e))) (fun z e => hf z (fun q' => hj ?_))
    subst q'
    exact h.d k j x y z hx h1 (by rw [hv]; rfl) e
end
structure RdR (W : World) (base G : Nat) (vc : Value) (at_ left : Int) (vb : Value) (L : List Bv) (P : List PB) : Prop where
  g : W.heap[G]? = some (.cells #[vc, .int .i64 at_, vb, .int .i64 left] 93)
  b : BsV W base vb L P
  bG : base ≤ G
def RdQ (W : World) (base G : Nat) (vc : Value) (at_ left : Int) (P : List PB) : Prop := ∃ vb L, RdR W base G vc at_ left vb L P
section
variable {W W' : World} {base G : Nat} {vc : Value} {a l : Int} {vb : Value} {L : List Bv} {P : List PB}
theorem RdR.below (h : RdR W base G vc a l vb L P) (hb : Below W.heap.size W W') : RdR W' base G vc a l vb L P := ⟨(hb.block _ (lt_16 h.g)).trans h.g, h.b.below hb, h.bG⟩
theorem RdR.c0 (h : RdR W base G vc a l vb L P) : W.cell? ⟨G, 0, none⟩ = some vc := at_16 h.g 0 _ rfl
theorem RdR.c1 (h : RdR W base G vc a l vb L P) : W.cell? ⟨G, 1, none⟩ = some (.int .i64 a) := at_16 h.g 1 _ rfl
theorem RdR.c2 (h : RdR W base G vc a l vb L P) : W.cell? ⟨G, 2, none⟩ = some vb := at_16 h.g 2 _ rfl
theorem RdR.c3 (h : RdR W base G vc a l vb L P) : W.cell? ⟨G, 3, none⟩ = some (.int .i64 l) := at_16 h.g 3 _ rfl
theorem RdR.s1 (h : RdR W base G vc a l vb L P) (n : Int) : RdR (W.setCell ⟨G, 1, none⟩ (.int .i64 n)) base G vc n l vb L P := ⟨by rw [set_16 h.g]; rfl, h.b.far h.g (by decide) (by decide) (by decide) _, h.bG⟩
theorem RdR.s3 (h : RdR W base G vc a l vb L P) (n : Int) : RdR (W.setCell ⟨G, 3, none⟩ (.int .i64 n)) base G vc a n vb L P := ⟨by rw [set_16 h.g]; rfl, h.b.far h.g (by decide) (by decide) (by decide) _, h.bG⟩
theorem RdR.ks (h : RdR W base G vc a l vb L P) (o : Nat) (u : Value) : Kt W (W.setCell ⟨G, o, none⟩ u) := Kt.set h.g (.inl rfl) u
theorem RdR.bs (h : RdR W base G vc a l vb L P) {w : World} (hb : Below base w W) (o : Nat) (u : Value) : Below base w (W.setCell ⟨G, o, none⟩ u) := hb.setCell (p := ⟨G, o, none⟩) h.bG u
end
end Go.Proofs.YtjgpbahglkaijaaDoor
namespace Go.Proofs.YtjgpbahglkaijaaDoor
open Go.RowKit Go.Shelf
set_option linter.unusedSimpArgs false
set_option linter.unusedVariables false
attribute [local go_sem] Oper.semAt_some

theorem w64_n18 (q : Nat) (h : q ≤ 1000000000) : wrap64 (q : Int) = (q : Int) := by unfold wrap64; omega
def fnB (qs : List Int) (x : Int) : Int := match qs.findIdx? (· == x) with | some i => (i : Int) | none => -1
theorem fnB_at {qs : List Int} (hs : qs.Pairwise (· < ·)) {i : Nat} {x : Int} (h : qs[i]? = some x) : fnB qs x = (i : Int) := by
  unfold fnB
  have hf : qs.findIdx? (· == x) = some i := by
    rw [List.findIdx?_eq_some_iff_getElem]
    obtain ⟨h1, h2⟩ := List.getElem?_eq_some_iff.mp h
    refine ⟨h1, by simp [h2], fun j hj => ?_⟩
    have := List.pairwise_iff_getElem.mp hs j i (by omega) h1 hj
    rw [h2] at this
    simp
    omega
  rw [hf]
theorem fnB_no {qs : List Int} {x : Int} (h : ∀ (i : Nat) (y : Int), qs[i]? = some y → y ≠ x) : fnB qs x = -1 := by
  unfold fnB
  have hf : qs.findIdx? (· == x) = none := by
    rw [List.findIdx?_eq_none_iff]
    intro y hy
    obtain ⟨i, hi⟩ := List.getElem?_of_mem hy
    simpa using h i y hi
  rw [hf]
set_option maxRecDepth 20000 in
set_option maxHeartbeats 4000000 in
theorem rfind18 (ao : Option Addr) (c : Nat) (qs : List Int) (x : Int) (w : World) (hc : qs = [] ∨ ∃ b off, ao = some ⟨b, off, none⟩ ∧ ∀ j y, qs[j]? = some y → w.cell? ⟨b, off + j * 5, none⟩ = some (.int .i64 y)) (hs : qs.Pairwise (· < ·)) (hl : qs.length ≤ 1000000000) :
    Calls Tryd.prog 35 #[.slice ao qs.length c, .int .i64 x] w fun e w' => e = .returned (.int .i64 (fnB qs x)) ∧ w' = w := by
  have HC := hid13 hc
  have HS := hid13 hs
  have HL : Hid (qs.length ≤ 1000000000) := hl
  obtain ⟨R, hR⟩ : ∃ R, R = fnB qs x := ⟨_, rfl⟩
  have HR := hid13 hR
  rw [← hR]
  clear hc hs hl hR
  go_enter Tryd.func35, Tryd.ntmps35
  go_wp2_with fail
  go_loopg [5, 6] qs.length (fun g lv hv wr => ∃ lo hi : Nat, lv = .int .i64 (lo : Int) ∧ hv = .int .i64 (hi : Int) ∧ Hid (lo ≤ hi ∧ hi ≤ qs.length ∧ hi - lo ≤ g ∧ (∀ j y, j < lo → qs[j]? = some y → y < x) ∧ (∀ j y, hi ≤ j → qs[j]? = some y → x ≤ y)) ∧ wr = w)
  case atStart => exact ⟨0, qs.length, rfl, rfl, hid13 ⟨Nat.zero_le _, Nat.le_refl _, by omega, fun j y h => by omega, fun j y h1 h2 => by have := (List.getElem?_eq_some_iff.mp h2).1; omega⟩, rfl⟩
  case round =>
    obtain ⟨lo, hi, rfl, rfl, HI, hw⟩ := hrel
    replace hw := hw.symm
    subst hw
    by_cases hlt : (lo : Int) < (hi : Int)
    · obtain ⟨mm, hmm⟩ : ∃ mm, mm = (lo + hi) / 2 := ⟨_, rfl⟩
      have hml : mm < qs.length := by have := HI.out; omega
      obtain ⟨b, off, rfl, hcell⟩ := HC.out.resolve_left (by rintro rfl; simp at hml)
      obtain ⟨y, hy⟩ : ∃ y, qs[mm]? = some y := ⟨_, List.getElem?_eq_getElem hml⟩
      have cy := hcell mm y hy
      have hmi : (mm : Int) < (qs.length : Int) := by omega
      have m1 : IntKind.i64.wrap ((lo : Int) + (hi : Int)) = (lo : Int) + (hi : Int) := by rw [IntKind.wrap_i64]; have := HI.out; have := HL.out; omega
      have m2 : ((lo : Int) + (hi : Int)).tdiv 2 = (mm : Int) := by rw [Int.tdiv_eq_ediv_of_nonneg (by omega)]; omega
      have m3 : IntKind.i64.wrap (mm : Int) = (mm : Int) := by rw [IntKind.wrap_i64]; have := HL.out; omega
      have m5 : wrap64 (mm : Int) = (mm : Int) := w64_n18 mm (by have := HL.out; omega)
      have m4 : IntKind.i64.wrap ((mm : Int) + 1) = ((mm + 1 : Nat) : Int) := by rw [IntKind.wrap_i64]; have := HL.out; push_cast; omega
      have HM : Hid (lo ≤ mm ∧ mm < hi ∧ qs[mm]? = some y) := ⟨by omega, by omega, hy⟩
      have HP := hid13 (fun j z (h1 : qs[j]? = some z) => ((fun h => by
        obtain ⟨a1, a2⟩ := List.getElem?_eq_some_iff.mp h1
        obtain ⟨b1, b2⟩ := List.getElem?_eq_some_iff.mp hy
        have := List.pairwise_iff_getElem.mp HS.out j mm a1 b1 h
        rw [a2, b2] at this
        exact this) : j < mm → z < y))
      have HQ := hid13 (fun j z (h1 : qs[j]? = some z) => ((fun h => by
        obtain ⟨a1, a2⟩ := List.getElem?_eq_some_iff.mp h1
        obtain ⟨b1, b2⟩ := List.getElem?_eq_some_iff.mp hy
        have := List.pairwise_iff_getElem.mp HS.out mm j b1 a1 h
        rw [a2, b2] at this
        exact this) : mm < j → y < z))
      clear hcell hy hmm hml
      by_cases hyx : y < x
      · have HN : Hid (mm + 1 ≤ hi ∧ hi ≤ qs.length ∧ hi - (mm + 1) ≤ gk - 1 ∧ (∀ j z, j < mm + 1 → qs[j]? = some z → z < x) ∧ (∀ j z, hi ≤ j → qs[j]? = some z → x ≤ z)) := by
          refine ⟨by have := HM.out; omega, HI.out.2.1, by have := HM.out; have := HI.out; omega, fun j z hj hz => ?_, HI.out.2.2.2.2⟩
          by_cases e : j = mm
          · subst e
            rw [HM.out.2.2] at hz
            injection hz with hz
            omega
          · have := HP.out j z hz (by omega)
            omega
        have HG : Hid (gk - 1 < gk) := by have := HM.out; have := HI.out; show _ < _; omega
        clear HI HM HP HQ
        go_wp2
        go_roundg (gk - 1)
        case measure => exact HG.out
        case rel => exact ⟨mm + 1, hi, rfl, rfl, HN, rfl⟩
      · have HN : Hid (lo ≤ mm ∧ mm ≤ qs.length ∧ mm - lo ≤ gk - 1 ∧ (∀ j z, j < lo → qs[j]? = some z → z < x) ∧ (∀ j z, mm ≤ j → qs[j]? = some z → x ≤ z)) := by
          refine ⟨HM.out.1, by have := HM.out; have := HI.out; omega, by have := HM.out; have := HI.out; omega, HI.out.2.2.2.1, fun j z hj hz => ?_⟩
          by_cases e : j = mm
          · subst e
            rw [HM.out.2.2] at hz
            injection hz with hz
            omega
          · have := HQ.out j z hz (by omega)
            omega
        have HG : Hid (gk - 1 < gk) := by have := HM.out; have := HI.out; show _ < _; omega
        clear HI HM HP HQ
        go_wp2
        go_roundg (gk - 1)
        case measure => exact HG.out
        case rel => exact ⟨lo, mm, rfl, rfl, HN, rfl⟩
    · have hee : lo = hi := by have := HI.out; omega
      by_cases hll : (lo : Int) < (qs.length : Int)
      · have hln : lo < qs.length := by omega
        obtain ⟨b, off, rfl, hcell⟩ := HC.out.resolve_left (by rintro rfl; simp at hln)
        obtain ⟨y, hy⟩ : ∃ y, qs[lo]? = some y := ⟨_, List.getElem?_eq_getElem hln⟩
        have cy := hcell lo y hy
        by_cases hyx : y = x
        · have HE : Hid (R = (lo : Int)) := by show _ = _; rw [HR.out]; exact fnB_at HS.out (by rw [hy, hyx])
          subst hyx
          clear HI hcell hy hee
          go_wp2
          go_ret
          exact ⟨by rw [HE.out]; rfl, rfl⟩
        · have HE : Hid (R = -1) := by
            show _ = _
            rw [HR.out]
            refine fnB_no (fun i z hz e => ?_)
            by_cases h1 : i < lo
            · have := HI.out.2.2.2.1 i z h1 hz
              omega
            · by_cases h2 : i = lo
              · subst h2
                rw [hy] at hz
                injection hz with hz
                omega
              · obtain ⟨a1, a2⟩ := List.getElem?_eq_some_iff.mp hz
                obtain ⟨b1, b2⟩ := List.getElem?_eq_some_iff.mp hy
                have h3 := List.pairwise_iff_getElem.mp HS.out lo i b1 a1 (by omega)
                rw [a2, b2] at h3
                have := HI.out.2.2.2.2 lo y (by omega) hy
                omega
          have hne : (y == x) = false := by simpa using hyx
          clear HI hcell hy hee hyx
          go_wp2
          go_ret
          exact ⟨by rw [HE.out]; rfl, rfl⟩
      · have HE : Hid (R = -1) := by
          show _ = _
          rw [HR.out]
          refine fnB_no (fun i z hz e => ?_)
          have h1 := (List.getElem?_eq_some_iff.mp hz).1
          have := HI.out.2.2.2.1 i z (by omega) hz
          omega
        clear HI hee
        go_wp2
        go_ret
        exact ⟨by rw [HE.out]; rfl, rfl⟩
end Go.Proofs.YtjgpbahglkaijaaDoor
