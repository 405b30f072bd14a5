/-
  Part 28 of the proof: 9 texts, one behind the other.
-/
import Derived.Test.YtofpbommhklooaaPart7
import Derived.Test.YtofpbommhklooaaPart6
import Derived.Deep.AppendLies
import Derived.Deep.RegionHeld3
import Derived.Test.YtofpbommhklooaaPart27
import Derived.Test.YtofpbommhklooaaPart13
import Derived.Test.YtofpbommhklooaaPart25
import Derived.Test.YtofpbommhklooaaPart26
import Derived.Test.YtofpbommhklooaaPart23
import Derived.Test.YtofpbommhklooaaPart16
import Derived.Test.YtofpbommhklooaaPart5
import Derived.Test.YtofpbommhklooaaPart10
/-
  What a call of package word's Text does.
-/
namespace Go.Proofs.Ytofpbommhklooaa
open Go.RowKit
set_option linter.unusedSimpArgs false
set_option linter.unusedVariables false

/-- The number of the digit at place k, and its sign. -/
def nib (x : BitVec 128) (k : Nat) : Nat := (lv (x >>> (124 - 4 * k))).toNat % 16
def chN (d : Nat) : Nat := if d < 10 then 48 + d else 87 + d
theorem nib_lt (x : BitVec 128) (k : Nat) : nib x k < 16 := Nat.mod_lt _ (by decide)
theorem and15 (x : BitVec 128) (k : Nat) : bits .and .u64 (lI (x >>> (124 - 4 * k))) 15 = ((nib x k : Nat) : Int) := by
  unfold lI nib
  have h : bits .and .u64 ((lv (x >>> (124 - 4 * k))).toNat : Int) 15 = (((lv (x >>> (124 - 4 * k))).toNat &&& 15 : Nat) : Int) := bits_and_u64_nat _ 15 (BitVec.isLt _) (by decide)
  rw [h]
  congr 1
  exact Nat.and_two_pow_sub_one_eq_mod _ 4
theorem dig_tab (d : Nat) (h : d < 16) : ((⟨#[48, 49, 50, 51, 52, 53, 54, 55, 56, 57, 97, 98, 99, 100, 101, 102]⟩ : ByteArray)[d]'h).toNat = chN d := by
  have all : ∀ j : Fin 16, ((⟨#[48, 49, 50, 51, 52, 53, 54, 55, 56, 57, 97, 98, 99, 100, 101, 102]⟩ : ByteArray)[j.val]'j.isLt).toNat = chN j.val := by decide
  exact all ⟨d, h⟩

theorem new_cell (W : World) (o : Obj) (cs : Array Value) (t : TypeId) (j : Nat) : ((W.alloc o).alloc (.cells cs t)).cell? ⟨W.heap.size + 1, j, none⟩ = cs[j]? := by
  have h : ((W.alloc o).alloc (.cells cs t)).heap[W.heap.size + 1]? = some (.cells cs t) := by
    show ((W.heap.push o).push (.cells cs t))[W.heap.size + 1]? = _
    rw [Array.getElem?_push, if_pos (by simp)]
  unfold World.cell?
  rw [h]
  simp
theorem new_frozen (W : World) (o : Obj) (cs : Array Value) (t : TypeId) (j : Nat) : ((W.alloc o).alloc (.cells cs t)).frozen? ⟨W.heap.size + 1, j, none⟩ = false := by
  simp [go_sem]

theorem set_same {W : World} {B k : Nat} {u v : Value} (h : W.cell? ⟨B, k, none⟩ = some u) : (W.setCell ⟨B, k, none⟩ v).cell? ⟨B, k, none⟩ = some v := by
  simp [go_sem, h]
theorem set_other {W : World} {B k j : Nat} {v : Value} (h : ¬ k = j) : (W.setCell ⟨B, k, none⟩ v).cell? ⟨B, j, none⟩ = W.cell? ⟨B, j, none⟩ := by
  simp [go_sem, h]
/-- The text of a word, as bytes. -/
def txtL (x : BitVec 128) : List Int := (List.range 32).map fun j => (chN (nib x j) : Int)
def txtW (x : BitVec 128) : ByteArray := (txtL x).foldl (fun r n => r.push (UInt8.ofNat n.toNat)) ByteArray.empty
end Go.Proofs.Ytofpbommhklooaa
/-
  What a call of the reference's Text does.
-/
namespace Go.Proofs.Ytofpbommhklooaa
open Go.RowKit
set_option linter.unusedSimpArgs false
set_option linter.unusedVariables false

theorem bit_div (x : BitVec 128) (i : Int) (d : Nat) (h : i = 127 - (d : Int)) (hd : d ≤ 127) : bitZ x i = ((x.toNat / 2 ^ d % 2 : Nat) : Int) := by
  unfold bitZ
  rw [bitB_in x i (by omega) (by omega), show (127 - i).toNat = d from by omega]
  unfold BitVec.getLsbD
  rw [Nat.testBit_eq_decide_div_mod_eq]
  have : x.toNat / 2 ^ d % 2 = 0 ∨ x.toNat / 2 ^ d % 2 = 1 := by omega
  rcases this with e | e <;> simp [e]
theorem nib_div (x : BitVec 128) (k : Nat) : nib x k = x.toNat / 2 ^ (124 - 4 * k) % 16 := by
  unfold nib
  rw [lvN, BitVec.toNat_ushiftRight, Nat.shiftRight_eq_div_pow]
  omega
theorem nib_bits (x : BitVec 128) (k : Nat) (h : k < 32) : 8 * bitZ x (4 * (k : Int)) + 4 * bitZ x (4 * (k : Int) + 1) + 2 * bitZ x (4 * (k : Int) + 2) + bitZ x (4 * (k : Int) + 3) = ((nib x k : Nat) : Int) := by
  rw [bit_div x (4 * (k : Int)) (124 - 4 * k + 3) (by omega) (by omega), bit_div x (4 * (k : Int) + 1) (124 - 4 * k + 2) (by omega) (by omega), bit_div x (4 * (k : Int) + 2) (124 - 4 * k + 1) (by omega) (by omega), bit_div x (4 * (k : Int) + 3) (124 - 4 * k) (by omega) (by omega), nib_div]
  rw [Nat.pow_add, Nat.pow_add, Nat.pow_add, ← Nat.div_div_eq_div_mul, ← Nat.div_div_eq_div_mul, ← Nat.div_div_eq_div_mul]
  generalize x.toNat / 2 ^ (124 - 4 * k) = m
  omega

/-- The first k signs, as cells. -/
def cellsT (x : BitVec 128) (k : Nat) : List Value := (List.range k).map fun j => Value.int .u8 (chN (nib x j) : Int)
theorem cellsT_succ (x : BitVec 128) (k : Nat) : cellsT x (k + 1) = cellsT x k ++ [Value.int .u8 (chN (nib x k) : Int)] := by
  unfold cellsT; rw [List.range_succ]; simp
theorem cellsT_get (x : BitVec 128) (k j : Nat) (h : j < k) : (cellsT x k)[j]? = some (.int .u8 (chN (nib x j) : Int)) := by
  unfold cellsT
  simp [h]

theorem own_below {base e size n : Nat} {v : Value} {xs : List Value} {W w' : World} (hb : Below W.heap.size W w') (h : W.ownsRow base e size v n xs) : w'.ownsRow base e size v n xs := by
  refine h.kept (row := none) ⟨hb.os, hb.tape, hb.output, hb.size, fun k hk _ => hb.block k hk⟩ ?_
  cases v.ownBlock with
  | none => exact Or.inl rfl
  | some a => exact Or.inr (by simp)

theorem app_keep {w W w1 : World} {x : BitVec 128} {e size n : Nat} {v : Value} {xs : List Value} (o : W.ownsRow (w.heap.size + 1) e size v n xs) (g : W.grownBy w1 v.ownBlock)
    (k1 : W.cell? ⟨w.heap.size, 0, none⟩ = some (.int .u64 (hI x))) (k2 : W.cell? ⟨w.heap.size, 1, none⟩ = some (.int .u64 (lI x))) (k9 : Below w.heap.size w W) :
    w1.cell? ⟨w.heap.size, 0, none⟩ = some (.int .u64 (hI x)) ∧ w1.cell? ⟨w.heap.size, 1, none⟩ = some (.int .u64 (lI x)) ∧ Below w.heap.size w w1 := by
  have hne : some w.heap.size ≠ v.ownBlock := by
    intro h
    have := (o.lt _ h.symm).1
    omega
  refine ⟨g.cell k1 hne, g.cell k2 hne, k9.grown g k9.size ?_⟩
  intro j hj
  have := (o.lt _ hj).1
  omega
theorem al_keep {w W : World} {x : BitVec 128} (o : Obj)
    (k1 : W.cell? ⟨w.heap.size, 0, none⟩ = some (.int .u64 (hI x))) (k2 : W.cell? ⟨w.heap.size, 1, none⟩ = some (.int .u64 (lI x))) (k9 : Below w.heap.size w W) :
    (W.alloc o).cell? ⟨w.heap.size, 0, none⟩ = some (.int .u64 (hI x)) ∧ (W.alloc o).cell? ⟨w.heap.size, 1, none⟩ = some (.int .u64 (lI x)) ∧ Below w.heap.size w (W.alloc o) :=
  ⟨keepc (bl1 W o) k1, keepc (bl1 W o) k2, keepb (bl1 W o) k9⟩
theorem Try.infoB : (Try.prog.info? 5).map (fun i => (i.zero, i.size, i.bytes)) = some (some (.int .u8 0), 1, 1) := by kernel_rfl
end Go.Proofs.Ytofpbommhklooaa
/-
  What the call of the law's Kept of tables does.
-/
namespace Go.Proofs.Ytofpbommhklooaa
open Go.RowKit
set_option linter.unusedSimpArgs false
set_option linter.unusedVariables false

/-- All but one block is as it was. -/
def Sty (g : Nat) (W W' : World) : Prop := W'.os = W.os ∧ W'.tape = W.tape ∧ W'.output = W.output ∧ W.heap.size ≤ W'.heap.size ∧ ∀ z, z < W.heap.size → z ≠ g → W'.heap[z]? = W.heap[z]?
theorem Sty.refl (g : Nat) (W : World) : Sty g W W := ⟨rfl, rfl, rfl, Nat.le_refl _, fun _ _ _ => rfl⟩
theorem Sty.below {g : Nat} {W W' W'' : World} (h : Sty g W W') (hb : Below W'.heap.size W' W'') : Sty g W W'' := ⟨by rw [hb.os, h.1], by rw [hb.tape, h.2.1], by rw [hb.output, h.2.2.1], Nat.le_trans h.2.2.2.1 hb.size, fun z h1 h2 => by rw [hb.block z (by have := h.2.2.2.1; omega), h.2.2.2.2 z h1 h2]⟩
theorem Sty.set {g : Nat} {W W' : World} (h : Sty g W W') (j : Nat) (u : Value) : Sty g W (W'.setCell ⟨g, j, none⟩ u) := by
  have b : Below 0 W' (W'.setCell ⟨g, j, none⟩ u) := (Below.refl _ _).setCell (Nat.zero_le _) u
  exact ⟨by rw [b.os, h.1], by rw [b.tape, h.2.1], by rw [b.output, h.2.2.1], Nat.le_trans h.2.2.2.1 b.size, fun z h1 h2 => by rw [hSet _ h2, h.2.2.2.2 z h1 h2]⟩
theorem Sty.own {g : Nat} {W W' : World} (h : Sty g W W') {base e size n : Nat} {v : Value} {xs : List Value} (ho : W.ownsRow base e size v n xs) (hn : v.ownBlock ≠ some g) : W'.ownsRow base e size v n xs := own_heap ho (fun z e => h.2.2.2.2 z (ho.lt z e).2 (fun q => hn (by rw [e, q])))
theorem Sty.low {g : Nat} {w W W' : World} (h : Sty g W W') (hb : Below w.heap.size w W) (hg : w.heap.size ≤ g) : Below w.heap.size w W' := ⟨by rw [h.1, hb.os], by rw [h.2.1, hb.tape], by rw [h.2.2.1, hb.output], Nat.le_trans hb.size h.2.2.2.1, fun z hz => by rw [h.2.2.2.2 z (by have := hb.size; omega) (by omega), hb.block z hz]⟩
theorem all_get5 (l : List Rte) (k : Nat) (hk : k < l.length) (h : k < (l ++ mkR l.length 3).length) : (l ++ mkR l.length 3)[k] = l[k] := List.getElem_append_left hk
theorem all_mark5 (l : List Rte) (k : Nat) (hk : l.length ≤ k) (h : k < (l ++ mkR l.length 3).length) : (l ++ mkR l.length 3)[k] = ((0#128, 0), -7 - (k : Int)) := by
  rw [List.getElem_append_right hk]
  unfold mkR
  simp
  omega
theorem eqR5_run (w : World) (h : Int) :
    (Op.equalIn 10000 47 (.agg #[.int .u64 0, .int .u64 0, .int .i64 0, .int .i64 h]) (.agg #[.int .u64 0, .int .u64 0, .int .i64 0, .int .i64 h])).run Try.prog w = .ok true w := by
  go_simp
set_option maxRecDepth 20000 in
set_option maxHeartbeats 8000000 in
theorem kept5_any (F : Int) (v : Value) (l : List Rte) (w0 w : World) (hv : RwR w0 v l) (hB : Below w0.heap.size w0 w) (g : Nat) (hown : w.ownsRow w0.heap.size 47 4 (.slice (some ⟨g, 0, none⟩) (l.length + 3) (l.length + 3)) (l.length + 3) (rowR (l ++ mkR l.length 3))) (hl : l.length ≤ 1000000) :
    Calls Try.prog 22 #[.agg #[.int .i64 F, .slice (some ⟨g, 0, none⟩) l.length (l.length + 3)], .agg #[.int .i64 F, v]] w fun e w' => e = .returned (.bool true) ∧ Sty g w w' := by
  obtain ⟨ao, c, rfl, hv⟩ := hv
  have HV : Hid (l = [] ∨ ∃ b off, ao = some ⟨b, off, none⟩ ∧ ∀ j u, (rowR l)[j]? = some u → w0.cell? ⟨b, off + j, none⟩ = some u) := hv
  have hgb : w0.heap.size ≤ g := (hown.lt g (by simp [Value.ownBlock])).1
  have hgw : g < w.heap.size := (hown.lt g (by simp [Value.ownBlock])).2
  have q1 := bl1 w (.cells #[.int .i64 F, .slice (some ⟨g, 0, none⟩) l.length (l.length + 3)] 24)
  have q2 := bl1 (w.alloc (.cells #[.int .i64 F, .slice (some ⟨g, 0, none⟩) l.length (l.length + 3)] 24)) (.cells #[.int .i64 F, .slice ao l.length c] 24)
  have HM := hidR ((att_new w w.heap.size F (.slice (some ⟨g, 0, none⟩) l.length (l.length + 3)) 24 rfl).below q2)
  have HT := hidR (att_new (w.alloc (.cells #[.int .i64 F, .slice (some ⟨g, 0, none⟩) l.length (l.length + 3)] 24)) (w.heap.size + 1) F (.slice ao l.length c) 24 (by simp))
  have HO := hidR (own_below q2 (own_below q1 hown))
  have HS := hidR (((Sty.refl g w).below q1).below q2)
  have HB := hidR (keepb q2 (keepb q1 hB))
  clear hv hown hB q1 q2
  have m1 : IntKind.i64.wrap ((l.length : Int) + 3) = (l.length : Int) + 3 := by rw [IntKind.wrap_i64]; omega
  have hAl' : (l ++ mkR l.length 3).length = l.length + 3 := by rw [List.length_append, mkR_len]
  have ea : ((l.length : Int) + 3).toNat = l.length + 3 := by omega
  have i0 : (l.length : Int) + 3 ≤ ((l.length + 3 : Nat) : Int) := by omega
  have i0' : (0 : Int) ≤ (l.length : Int) + 3 := by omega
  have d1 : ((l.length : Int) != (l.length : Int)) = false := by simp
  have d2 : (F != F) = false := by simp
  obtain ⟨t0, t1⟩ := HT.out
  obtain ⟨y0, y1⟩ := HM.out
  go_enter Try.func22, Try.ntmps22
  go_wp2_with fail
  clear i0 i0' t0 t1 y0 y1 HM
  go_loopw [6, 7] (fun okv i wr => ∃ k : Nat, k ≤ l.length + 3 ∧ i = .int .i64 k ∧ okv = .bool true ∧ ∃ xs : List Value, Hid (xs.drop (k * 4) = (rowR (l ++ mkR l.length 3)).drop (k * 4)) ∧ Hid (wr.ownsRow w0.heap.size 47 4 (.slice (some ⟨g, 0, none⟩) (l.length + 3) (l.length + 3)) (l.length + 3) xs) ∧ Hid (AtT wr (w.heap.size + 1) F (.slice ao l.length c)) ∧ Hid (Below w0.heap.size w0 wr) ∧ Hid (Sty g w wr)) (fun _ i _ => (l.length + 3) - (intOf i).toNat)
  case atStart => exact ⟨0, by omega, rfl, rfl, _, hidR rfl, HO, HT, HB, HS⟩
  case round =>
    clear HO HB HT HS
    obtain ⟨k, hk, rfl, rfl, xs, HX, HO, HT, HB, HS⟩ := hrel
    obtain ⟨t0, t1⟩ := HT.out
    have hset : ∀ (W : World) (u0 u1 u2 u3 : Value), AtT W (w.heap.size + 1) F (.slice ao l.length c) → AtT ((((W.setCell ⟨g, k * 4, none⟩ u0).setCell ⟨g, k * 4 + 1, none⟩ u1).setCell ⟨g, k * 4 + 2, none⟩ u2).setCell ⟨g, k * 4 + 3, none⟩ u3) (w.heap.size + 1) F (.slice ao l.length c) := by
      intro W u0 u1 u2 u3 h
      have e : ((((W.setCell ⟨g, k * 4, none⟩ u0).setCell ⟨g, k * 4 + 1, none⟩ u1).setCell ⟨g, k * 4 + 2, none⟩ u2).setCell ⟨g, k * 4 + 3, none⟩ u3).heap[w.heap.size + 1]? = W.heap[w.heap.size + 1]? := by
        rw [hSet _ (by omega), hSet _ (by omega), hSet _ (by omega), hSet _ (by omega)]
      exact ⟨by rw [cellH e]; exact h.1, by rw [cellH e]; exact h.2⟩
    have HSET := hidR hset
    clear hset
    by_cases hlt : k < l.length + 3
    · have hkA : k < (l ++ mkR l.length 3).length := by omega
      obtain ⟨a0, a1, a2, a3⟩ := rowR_get (l ++ mkR l.length 3) k hkA
      have cc : ∀ r u, (rowR (l ++ mkR l.length 3))[k * 4 + r]? = some u → wr.cell? ⟨g, k * 4 + r, none⟩ = some u := by
        intro r u h
        rw [← drop_get5 xs _ (k * 4) HX.out r] at h
        have := HO.out.cells (g := g) rfl _ _ h
        rw [addA, Nat.zero_add] at this
        exact this
      have x0 := cc 0 _ (by simpa using a0)
      have x1 := cc 1 _ a1
      have x2 := cc 2 _ a2
      have x3 := cc 3 _ a3
      rw [Nat.add_zero] at x0
      obtain ⟨-, s0⟩ := own_cell6 HO.out (k * 4) (by omega)
      obtain ⟨-, s1⟩ := own_cell6 HO.out (k * 4 + 1) (by omega)
      obtain ⟨-, s2⟩ := own_cell6 HO.out (k * 4 + 2) (by omega)
      obtain ⟨-, s3⟩ := own_cell6 HO.out (k * 4 + 3) (by omega)
      clear cc a0 a1 a2 a3
      have i1 : (k : Int) < (l.length : Int) + 3 := by omega
      have mk : IntKind.i64.wrap ((k : Int) + 1) = (k : Int) + 1 := by rw [IntKind.wrap_i64]; omega
      by_cases hkl : k < l.length
      · rw [all_get5 l k hkl hkA] at x0 x1 x2 x3
        have i2 : (k : Int) < (l.length : Int) := by omega
        rcases HV.out with h | ⟨b, off, rfl, hc⟩
        · rw [h] at hkl; simp at hkl
        · obtain ⟨y0, y1, y2, y3⟩ := rwr_cells hc k hkl
          have y0 := keepc HB.out y0
          have y1 := keepc HB.out y1
          have y2 := keepc HB.out y2
          have y3 := keepc HB.out y3
          have hE := fun w => eqR_run l[k].1.1 l[k].1.2 l[k].2 w
          clear hc
          generalize l[k].1.1 = px at *
          generalize l[k].1.2 = pn at *
          generalize l[k].2 = ph at *
          go_wp2_with fail
          go_quiet (fail)
          have HOq := hidR (own_below (below_drewN (Below.refl _ _) nq) HO.out)
          have HBq := hidR (below_drewN HB.out nq)
          have HSq := hidR (HS.out.below (below_drewN (Below.refl _ _) nq))
          have HTq := hidR (HT.out.below (below_drewN (Below.refl _ _) nq))
          clear HO HB HS HT
          go_wp2
          go_roundw
          case rel =>
            refine ⟨k + 1, by omega, by go_num, rfl, _, hidR ?_, hidR ((((HOq.out.stored (k * 4) (.int .u64 0)).1.stored (k * 4 + 1) (.int .u64 0)).1.stored (k * 4 + 2) (.int .i64 0)).1.stored (k * 4 + 3) (.int .i64 77)).1, hidR (HSET.out _ _ _ _ _ HTq.out), hidR ((((HBq.out.setCell (p := ⟨g, _, none⟩) hgb _).setCell (p := ⟨g, _, none⟩) hgb _).setCell (p := ⟨g, _, none⟩) hgb _).setCell (p := ⟨g, _, none⟩) hgb _), hidR ((((HSq.out.set _ _).set _ _).set _ _).set _ _)⟩
            rw [drop4]
            have := congrArg (fun z => z.drop 4) HX.out
            simpa [List.drop_drop, Nat.add_mul] using this
          case measure => simp [intOf]; omega
      · rw [all_mark5 l k (by omega) hkA] at x0 x1 x2 x3
        rw [hI_zero] at x0
        rw [lI_zero] at x1
        have i2 : ¬ k < l.length := hkl
        have ms : IntKind.i64.wrap (-7 - (k : Int)) = -7 - (k : Int) := by rw [IntKind.wrap_i64]; omega
        have hE := fun w => eqR5_run w (-7 - (k : Int))
        simp only at x2 x3
        go_wp2
        go_roundw
        case rel =>
          refine ⟨k + 1, by omega, by go_num, rfl, _, hidR ?_, hidR ((((HO.out.stored (k * 4) (.int .u64 0)).1.stored (k * 4 + 1) (.int .u64 0)).1.stored (k * 4 + 2) (.int .i64 0)).1.stored (k * 4 + 3) (.int .i64 77)).1, hidR (HSET.out _ _ _ _ _ HT.out), hidR ((((HB.out.setCell (p := ⟨g, _, none⟩) hgb _).setCell (p := ⟨g, _, none⟩) hgb _).setCell (p := ⟨g, _, none⟩) hgb _).setCell (p := ⟨g, _, none⟩) hgb _), hidR ((((HS.out.set _ _).set _ _).set _ _).set _ _)⟩
          rw [drop4]
          have := congrArg (fun z => z.drop 4) HX.out
          simpa [List.drop_drop, Nat.add_mul] using this
        case measure => simp [intOf]; omega
    · have hd : ¬ (k : Int) < (l.length : Int) + 3 := by omega
      go_wp2
      go_ret
      exact ⟨rfl, HS.out⟩
end Go.Proofs.Ytofpbommhklooaa
/-
  A range over a method's value whose rounds begin with an activation that goes by the element alone.
-/
namespace Go.Proofs.Ytofpbommhklooaa
open Go.RowKit Go.Shelf
set_option linter.unusedSimpArgs false
set_option linter.unusedVariables false

variable {P : Program}
theorem rangeYA {α : Type} {g : Operand} {ps : Array Tmp} {assign body : Code} {Q : Exit → Act → World → Prop} {a : Act} {w : World} (n : Nat) (h1 : 1 ≤ n) {gf : Nat} {ba lb : Array Value} (hg : a.eval g = .func (.func gf) ba lb) (eg : ∀ args w, (callFunc gf args).run P w = .ok (.enter gf args) w)
    {encs : α → Array Value} {Kp : World → World → Prop} {S Sp : List α → Prop} {Bd : Nat} {w0 : World} (hseq : SeqY (n - 1) P gf ba lb encs Kp S Sp Bd w0) (hBd : Bd ≤ w.heap.size + 2)
    (hKr : ∀ A : World, Kp A A) (hKt : ∀ {A B C : World}, Kp A B → Kp B C → Kp A C) (hKb : ∀ (W : World) (o o' : Obj), W.heap[w.heap.size + 1]? = some o → o.isCells = false → Kp W (W.putObj (w.heap.size + 1) o')) (hb0 : Below w0.heap.size w0 w) (hps : ∀ x, (encs x).size = ps.size)
    (I : List α → World → Prop) (Ix : Code → List α → World → Prop) (hI : OwnFrom w.heap.size I) (hIx : ∀ c, OwnFrom w.heap.size (Ix c)) (h0 : I [] w) (AX : α → Act)
    (hassign : ∀ (l : Nat) (x : α) (W : World) (K : Act → World → Prop), K (AX x) W →
      assign.wpIn (Fence.wide.inRound l) (n - 1 - 1) P (Exit.then K (fun _ _ _ => False)) { tmps := (ps.zip (encs x)).foldl (fun t (p, v) => t.setIfInBounds p v) a.tmps, defers := [] } W)
    (hbody : ∀ (l : Nat) (pre : List α) (x : α) (W : World), w.heap.size ≤ l → (∃ r, W.heap[l]? = some (.loop r)) → I pre W → Sp (pre ++ [x]) → body.wpIn (Fence.wide.inRound l) (n - 1 - 1) P (postX w.heap.size Kp I Ix (pre ++ [x]) W) (AX x) W)
    (hdone : ∀ (D : Nat) (xs : List α) (W : World), w.heap.size ≤ D → S xs → I xs W → W.heap[D]? = some (.deferred (some [])) → Q .normal { a with defers := { target := .collected D, args := #[] } :: a.defers } W)
    (hstop : ∀ (D : Nat) (c : Code) (pre : List α) (W : World), w.heap.size ≤ D → Sp pre → Ix c pre W → W.heap[D]? = some (.deferred (some [])) → c.wpIn Fence.wide n P Q { a with defers := { target := .collected D, args := #[] } :: a.defers } W) :
    (Code.rangeFunc g ps assign body).wpIn Fence.wide n P Q a w :=
  rangeY n h1 hg eg hseq hBd hKt hKb hb0 hps I Ix hI hIx h0 (fun y a' _ => a' = AX y) (fun y a' s A B row hs hg hr => hs)
    (fun l pre x W K hi hK => hassign l x W K (hK (AX x) W (KeepsFrom.refl _ _) (hKr W) hi rfl))
    (fun l pre x a' W h1 h2 h3 h4 h5 => by rw [h4]; exact hbody l pre x W h1 h2 h3 h5) hdone hstop
end Go.Proofs.Ytofpbommhklooaa
/-
  Blocks of cells and a tree's rows outlive what a sequence makes of its own.
-/
namespace Go.Proofs.Ytofpbommhklooaa
open Go.RowKit Go.Shelf
set_option linter.unusedSimpArgs false
set_option linter.unusedVariables false

theorem blk_kept {W W' : World} {z : Nat} {cs : Array Value} {T : TypeId} (h : W.heap[z]? = some (.cells cs T)) {row : Option Nat} (hg : W.grownBy W' row) (hr : ∀ r, row = some r → ∃ o : Obj, W.heap[r]? = some o ∧ o.isCells = false) : W'.heap[z]? = some (.cells cs T) := by
  rw [hg.block z (blk_lt h) (fun e => ?_)]
  · exact h
  · obtain ⟨o, h1, h2⟩ := hr z e.symm
    rw [h] at h1
    cases h1
    cases h2
theorem TrT.kept {W W' : World} {B : Nat} {F : Int} {g cap wg wc : Nat} {L : List Nd} {ws : List (BitVec 128)} (k : TrT W B F g cap wg wc L ws) {row : Option Nat} (hg : W.grownBy W' row) (hr : ∀ r, row = some r → ∃ o : Obj, W.heap[r]? = some o ∧ o.isCells = false) : TrT W' B F g cap wg wc L ws := ⟨k.tn.kept hg hr, fun j hj => ⟨cell_kept (k.wd j hj).1 hg hr, cell_kept (k.wd j hj).2 hg hr⟩⟩
theorem TrT.heap {W W' : World} {B : Nat} {F : Int} {g cap wg wc : Nat} {L : List Nd} {ws : List (BitVec 128)} (k : TrT W B F g cap wg wc L ws) (e1 : W'.heap[B]? = W.heap[B]?) (e2 : W'.heap[g]? = W.heap[g]?) (e3 : W'.heap[wg]? = W.heap[wg]?) : TrT W' B F g cap wg wc L ws := ⟨k.tn.heap e1 e2, fun j hj => by rw [cellB e3, cellB e3]; exact k.wd j hj⟩
end Go.Proofs.Ytofpbommhklooaa
/-
  The law's both: a table's tree, by the program and by the document.
-/
namespace Go.Proofs.Ytofpbommhklooaa
open Go.RowKit Go.Shelf
set_option linter.unusedSimpArgs false
set_option linter.unusedVariables false

/-- What New tells, the words told too. -/
def NewW (F : Int) (l : List Rte) (h0 : Nat) (z : Int) (e : Ending) (w' : World) : Prop := (z ≠ 0 ∧ e = .returned (.tuple #[.pointer none, .int .i64 z])) ∨ (z = 0 ∧ ∃ (B g cap wg wc : Nat) (ws : List (BitVec 128)) (L : List Nd), e = .returned (.tuple #[.pointer (some ⟨B, 0, none⟩), .int .i64 0]) ∧ TrT w' B F g cap wg wc L ws ∧ Tre l ws L ∧ L = (bkW 0 (grwG l (0#128, 0) grO).1 (grwG l (0#128, 0) grO).2.2).1 ∧ ws = (grwG l (0#128, 0) grO).2.1 ∧ h0 ≤ B ∧ h0 ≤ g ∧ h0 ≤ wg)
set_option maxRecDepth 20000 in
set_option maxHeartbeats 4000000 in
theorem newW8_any (F : Int) (v : Value) (l : List Rte) (w : World) (hv : RwR w v l) :
    Calls Try.prog 12 #[.agg #[.int .i64 F, v]] w fun e w' => (∃ z, TabE F l z ∧ NewW F l w.heap.size z e w') ∧ Below w.heap.size w w' := by
  have q0 := bl1 w (.cells #[.int .i64 F, v] 24)
  have KC := tcheck_any F v l _ (hv.below q0)
  have HT := hidR (att_new w w.heap.size F v 24 rfl)
  have HV0 := hidR (hv.below q0)
  have HB0 := hidR q0
  obtain ⟨t0, t1⟩ := HT.out
  clear hv q0
  go_enter Try.func12, Try.ntmps12
  go_wp2_with fail
  refine KC.mono ?_
  rintro e w1 ⟨⟨z, hz, rfl⟩, hb⟩
  have HT1 := hidR (HT.out.below hb)
  have HV1 := hidR (HV0.out.below hb)
  have HB1 := hidR (keepb hb HB0.out)
  have Hz := hidR hz
  clear KC hb HT HV0 HB0 hz t0 t1
  by_cases h0 : z = 0
  · subst h0
    obtain ⟨hF, hl, hr, hO⟩ := tab8_ok Hz.out
    have KG := grow_any F v l w1 HV1.out (by omega) (by omega) hl hr hO
    obtain ⟨t0, t1⟩ := HT1.out
    have Hl := hidR hl
    clear hF hl hr hO
    go_wp2_with fail
    refine KG.mono ?_
    rintro e w2 ⟨G, B, last, s, vn, vw, vy, rfl, rfl, hG, hK, hb⟩
    obtain ⟨hT, hy⟩ := hG.tre Hl.out
    obtain ⟨g, cap, wg, wc, k1, k2, k3⟩ := hK.trt hT.pos (by rw [hT.wl]; omega)
    have hs : w.heap.size ≤ w1.heap.size := HB1.out.size
    have HQ : Hid (∃ z, TabE F l z ∧ NewW F l w.heap.size z (.returned (.tuple #[.pointer (some ⟨B, 0, none⟩), .int .i64 0])) w2) := hidR ⟨0, Hz.out, .inr ⟨rfl, B, g, cap, wg, wc, _, _, rfl, k1, hT, rfl, rfl, by have := hK.bB; omega, by omega, by omega⟩⟩
    have HB2 := hidR (keepb hb HB1.out)
    clear hG hK hb hT hy k1 k2 k3 hs KG t0 t1
    go_wp2
    exact bodyPost_ret (v := .tuple #[.pointer (some ⟨B, 0, none⟩), .int .i64 0]) (by simp [results, Try.results12, go_sem]) rfl ⟨HQ.out, HB2.out⟩
  · have Hn := hidR h0
    go_wp2
    exact bodyPost_ret (v := .tuple #[.pointer none, .int .i64 z]) (by simp [results, Try.results12, go_sem]) rfl ⟨⟨z, Hz.out, .inl ⟨Hn.out, rfl⟩⟩, HB1.out⟩
/-- What is lent holds the routes. -/
theorem lend_rwr8 {W : World} {base g : Nat} {l m : List Rte} {n : Nat} (h : W.ownsRow base 47 4 (.slice (some ⟨g, 0, none⟩) n n) n (rowR (l ++ m))) (c : Nat) : RwR W (.slice (some ⟨g, 0, none⟩) l.length c) l := by
  refine ⟨_, c, rfl, .inr ⟨g, 0, rfl, fun j u hj => ?_⟩⟩
  have hj' : (rowR (l ++ m))[j]? = some u := by
    rw [rowR_app5]
    rw [List.getElem?_append_left]
    · exact hj
    · exact (List.getElem?_eq_some_iff.mp hj).1
  have := h.cells (g := g) rfl j u hj'
  rwa [addA] at this
/-- What both tells. -/
def BothQ (F : Int) (v : Value) (l : List Rte) (e : Ending) (w' : World) : Prop := e = .returned (.tuple #[.pointer none, .pointer none, .bool true]) ∨ ∃ (B g cap wg wc : Nat) (ws : List (BitVec 128)) (L : List Nd) (D : Nat) (P : List (BitVec 128 × Int)) (Z : List Int) (gp cp gz cz : Nat), e = .returned (.tuple #[.pointer (some ⟨B, 0, none⟩), .pointer (some ⟨D, 0, none⟩), .bool true]) ∧ TrT w' B F g cap wg wc L ws ∧ Ctx F l ws L ∧ Dc ws L P Z ∧ DrT w' D F v P Z gp cp gz cz ∧ l.length ≤ 300
set_option maxRecDepth 20000 in
set_option maxHeartbeats 8000000 in
theorem both8_any (F : Int) (v : Value) (l : List Rte) (w : World) (hv : RwR w v l) :
    Calls Try.prog 6 #[.agg #[.int .i64 F, v]] w fun e w' => BothQ F v l e w' ∧ Below w.heap.size w w' := by
  have b0 := bl1 w (.cells #[.int .i64 F, v] 24)
  have HT1 := hidR (att_new w w.heap.size F v 24 rfl)
  have HV := hidR hv
  have HV1 := hidR (hv.below b0)
  have HB1 := hidR b0
  obtain ⟨ao, c, rfl, -⟩ := hv
  clear b0
  go_enter Try.func6, Try.ntmps6
  by_cases hl : (300 : Int) < (l.length : Int)
  · go_wp2
    exact bodyPost_ret (v := .tuple #[.pointer none, .pointer none, .bool true]) (by simp [results, Try.results6, go_sem, hl]) rfl ⟨.inl rfl, HB1.out⟩
  · have hll : l.length ≤ 300 := by omega
    have KL := lend5_any F (.slice ao l.length c) l _ HV1.out (by omega)
    go_wp2_with fail
    revert HT1 HV1 HB1 KL
    generalize w.alloc (.cells #[.int .i64 F, .slice ao l.length c] 24) = w1
    intro HT1 HV1 HB1 KL
    refine KL.mono ?_
    rintro e w2 ⟨⟨g0, rfl, ho⟩, hb⟩
    have hgw := (ho.lt g0 rfl)
    have b2 := bl1 w2 (.cells #[.int .i64 F, .slice (some ⟨g0, 0, none⟩) l.length (l.length + 3)] 24)
    have HO2 := hidR (own_below b2 ho)
    have HB2 := hidR (keepb b2 (keepb hb HB1.out))
    have HB12 := hidR (keepb b2 hb)
    have HT2 := hidR ((HT1.out.below hb).below b2)
    have HM2 := hidR (att_new w2 w2.heap.size F (.slice (some ⟨g0, 0, none⟩) l.length (l.length + 3)) 24 rfl)
    have Hg2 : Hid (g0 < w2.heap.size ∧ w.heap.size ≤ g0 ∧ w1.heap.size ≤ g0 ∧ w.heap.size < w1.heap.size) := hidR ⟨hgw.2, by have := HB1.out.size; have := hgw.1; omega, hgw.1, cell_in HT1.out.1⟩
    clear KL ho hb b2 hgw
    have KS := newW8_any F (.slice (some ⟨g0, 0, none⟩) l.length (l.length + 3)) l _ (lend_rwr8 HO2.out (l.length + 3))
    obtain ⟨t0, t1⟩ := HT2.out
    obtain ⟨m0, m1⟩ := HM2.out
    go_wp2_with fail
    refine KS.mono ?_
    rintro e w3 ⟨⟨z, hz, hN⟩, hb⟩
    have HZ := hidR hz
    have HO3 := hidR (own_below hb HO2.out)
    have HB3 := hidR (keepb hb HB2.out)
    have HB13 := hidR (keepb hb HB12.out)
    have HT3 := hidR (HT2.out.below hb)
    have HM3 := hidR (HM2.out.below hb)
    have HN := hidR hN
    have Hs3 := hidR hb.size
    clear KS hb hz HO2 HB2 HB12 HT2 HM2 t0 t1 m0 m1
    have hE : ∃ pv : Option Addr, e = .returned (.tuple #[.pointer pv, .int .i64 z]) := by
      rcases hN with ⟨-, rfl⟩ | ⟨rfl, B, g, cap, wg, wc, ws, L, rfl, -⟩
      · exact ⟨_, rfl⟩
      · exact ⟨_, rfl⟩
    obtain ⟨pv, rfl⟩ := hE
    clear hN
    have KP := kept5_any F (.slice ao l.length c) l w1 w3 HV1.out HB13.out g0 HO3.out (by omega)
    obtain ⟨t0, t1⟩ := HT3.out
    obtain ⟨m0, m1⟩ := HM3.out
    go_wp2_with fail
    refine KP.mono ?_
    rintro e w4 ⟨rfl, hs⟩
    have HS := hidR hs
    have HB4 := hidR (hs.low HB3.out Hg2.out.2.1)
    have HT4 : Hid (AtT w4 w.heap.size F (.slice ao l.length c)) := hidR (by
      have hlt : w.heap.size < w3.heap.size := cell_in t0
      have hne : w.heap.size ≠ g0 := by have := Hg2.out; omega
      have e := hs.2.2.2.2 w.heap.size hlt hne
      exact ⟨by rw [World.cell?_of_block (a := ⟨w.heap.size, 0, none⟩) e]; exact t0, by rw [World.cell?_of_block (a := ⟨w.heap.size, 1, none⟩) e]; exact t1⟩)
    clear KP hs HM3 HT3 t0 t1 m0 m1
    have KR := rnew8_any F (.slice ao l.length c) l w4 (HV.out.below HB4.out)
    obtain ⟨t0, t1⟩ := HT4.out
    go_wp2_with fail
    refine KR.mono ?_
    rintro e w5 ⟨⟨z', hz', hR⟩, hb⟩
    obtain rfl := tab_one HZ.out hz'
    have HB5 := hidR (keepb hb HB4.out)
    rcases HN.out with ⟨h0, e0⟩ | ⟨h0, B, g, cap, wg, wc, ws, L, e0, k1, k2, k3, k4, k5, k6, k7⟩
    · rcases hR with ⟨-, rfl⟩ | ⟨h1, -⟩
      · injection e0 with e0; injection e0 with e0
        have e1 := congrArg (fun a : Array Value => a[0]?) e0
        simp at e1
        subst e1
        clear hb KR HN e0 t0 t1 HT4
        go_wp2
        exact bodyPost_ret (v := .tuple #[.pointer none, .pointer none, .bool true]) (by simp [results, Try.results6, go_sem]) rfl ⟨.inl rfl, HB5.out⟩
      · exact absurd h1 h0
    · rcases hR with ⟨h1, -⟩ | ⟨-, D, last, s, P, Z, vp, vh, rfl, rfl, hG, hD, hW⟩
      · exact absurd h0 h1
      · injection e0 with e0; injection e0 with e0
        have e1 := congrArg (fun a : Array Value => a[0]?) e0
        simp at e1
        subst e1 h0
        have HQ : Hid (BothQ F (.slice ao l.length c) l (.returned (.tuple #[.pointer (some ⟨B, 0, none⟩), .pointer (some ⟨D, 0, none⟩), .bool true])) w5) := hidR (by
          obtain ⟨a1, a2, a3, -⟩ := bkW_all hG.inv (by have := hG.nl; omega) 0
          have hdc : Dc ws L P Z := by
            rw [k3, k4]
            exact hD.ext a3 (fun i hi => a2.2 i hi)
          have hg := Hg2.out
          have n1 : P ≠ [] := fun q => by have h1 := hdc.pl; rw [q] at h1; have h2 := k2.pos; simp at h1; omega
          have n2 : Z ≠ [] := fun q => by have h1 := hdc.zl; rw [q] at h1; have h2 := k2.pos; simp at h1; omega
          obtain ⟨gp, cp, gz, cz, hr⟩ := hW.read n1 n2
          have hk : ∀ q, g0 < q → q < w3.heap.size → w4.heap[q]? = w3.heap[q]? := fun q q1 q2 => HS.out.2.2.2.2 q q2 (by omega)
          have hsz : ∀ q, w2.heap.size ≤ q → g0 < q := fun q h => by omega
          have hal : (w2.alloc (.cells #[.int .i64 F, .slice (some ⟨g0, 0, none⟩) l.length (l.length + 3)] 24)).heap.size = w2.heap.size + 1 := Array.size_push _
          rw [hal] at k5 k6 k7
          have b1 := cell_in k1.tn.w
          have b2 := cell_in (k1.tn.row 0 k2.pos).1
          have b3 := cell_in (k1.wd 0 (by rw [k2.wl]; omega)).1
          exact .inr ⟨B, g, cap, wg, wc, ws, L, D, P, Z, gp, cp, gz, cz, rfl, (k1.heap (hk B (by omega) b1) (hk g (by omega) b2) (hk wg (by omega) b3)).below hb, Ctx.of k2 HZ.out, hdc, hr, hll⟩)
        clear hb KR HN e0 t0 t1 HT4 hG hD hW k1 k2 k3 k4 k5 k6 k7
        go_wp2
        exact bodyPost_ret (v := .tuple #[.pointer (some ⟨B, 0, none⟩), .pointer (some ⟨D, 0, none⟩), .bool true]) (by simp [results, Try.results6, go_sem]) rfl ⟨HQ.out, HB5.out⟩
end Go.Proofs.Ytofpbommhklooaa
/-
  The document's questions tell what the program's tell.
-/
namespace Go.Proofs.Ytofpbommhklooaa
open Go.RowKit
set_option linter.unusedSimpArgs false
set_option linter.unusedVariables false

theorem ndAt_no8 {L : List Nd} {n : Int} (h : ¬ (0 ≤ n ∧ n < L.length)) : ndAt L n = Nd.none := by
  unfold ndAt
  by_cases c : 0 ≤ n
  · rw [if_pos c, List.getD_eq_getElem?_getD, List.getElem?_eq_none (by omega)]; rfl
  · rw [if_neg c]
theorem kidV_out {L : List Nd} {n bit : Int} (h : ¬ (0 ≤ n ∧ n < L.length) ∨ ¬ (bit = 0 ∨ bit = 1)) : kidV L n bit = -1 := by
  unfold kidV
  by_cases c : 0 ≤ n ∧ n < L.length
  · rw [if_neg (by omega), if_neg (by omega)]
  · rw [ndAt_no8 c]
    rw [if_neg (fun q => by have := q.2.1; simp [Nd.none] at this), if_neg (fun q => by have := q.2; simp [Nd.none] at this)]
section
variable {F : Int} {l : List Rte} {ws : List (BitVec 128)} {L : List Nd} {P : List (BitVec 128 × Int)} {Z : List Int} {D gp cp gz cz : Nat} {v : Value}
theorem Dc.sm (d : Dc ws L P Z) (c : Ctx F l ws L) : P.length ≤ 1000000000 := by rw [d.pl]; have := c.len; omega
theorem rkid8_eq (c : Ctx F l ws L) (d : Dc ws L P Z) (n bit : Int) (w : World) (h : DrT w D F v P Z gp cp gz cz) :
    Calls Try.prog 26 #[.pointer (some ⟨D, 0, none⟩), .int .i64 n, .int .i64 bit] w fun e w' => e = .returned (.int .i64 (kidV L n bit)) ∧ Below w.heap.size w w' := by
  by_cases hn : (0 ≤ n ∧ n < L.length) ∧ (bit = 0 ∨ bit = 1)
  · obtain ⟨i, rfl⟩ : ∃ i : Nat, n = (i : Int) := ⟨n.toNat, by omega⟩
    have hi : i < L.length := by omega
    rcases hn.2 with rfl | rfl
    · refine (rkid8_0 D F v P Z gp cp gz cz i (pfA ws L i) (ln L i) w h (d.pf hi) (c.lnF hi).1 c.F0.2 (d.srt c.t) (d.sm c)).mono ?_
      rintro e w' ⟨⟨q, rfl, hq⟩, hb⟩
      refine ⟨?_, hb⟩
      rcases hq with ⟨h1, rfl⟩ | ⟨h1, h2⟩
      · rw [(c.kidF hi h1).1]
      · rw [c.kid0 d hi h1 h2]
    · refine (rkid8_1 D F v P Z gp cp gz cz i (pfA ws L i) (ln L i) w h (d.pf hi) (c.lnF hi).1 c.F0.2 (d.srt c.t) (d.sm c)).mono ?_
      rintro e w' ⟨⟨q, rfl, hq⟩, hb⟩
      refine ⟨?_, hb⟩
      rcases hq with ⟨h1, rfl⟩ | ⟨h1, h2⟩
      · rw [(c.kidF hi h1).2]
      · rw [c.kid1 d hi h1 h2]
  · have hn' : ¬ (0 ≤ n ∧ n < L.length) ∨ ¬ (bit = 0 ∨ bit = 1) := by omega
    refine (rkid8_no D F v P Z gp cp gz cz n bit w h (by rw [d.pl]; exact hn')).mono ?_
    rintro e w' ⟨rfl, rfl⟩
    exact ⟨by rw [kidV_out hn'], Below.refl _ _⟩
end
/-- What the law knows: both trees, the table's variable, what stays. -/
structure CN8 (w : World) (F : Int) (v : Value) (B g cap wg wc : Nat) (L : List Nd) (ws : List (BitVec 128)) (D : Nat) (P : List (BitVec 128 × Int)) (Z : List Int) (gp cp gz cz : Nat) (X : World) : Prop where
  t : TrT X B F g cap wg wc L ws
  d : DrT X D F v P Z gp cp gz cz
  a : AtT X w.heap.size F v
  b : Below w.heap.size w X
theorem CN8.below {w X Y : World} {F : Int} {v : Value} {B g cap wg wc : Nat} {L : List Nd} {ws : List (BitVec 128)} {D : Nat} {P : List (BitVec 128 × Int)} {Z : List Int} {gp cp gz cz : Nat} (k : CN8 w F v B g cap wg wc L ws D P Z gp cp gz cz X) (hb : Below X.heap.size X Y) : CN8 w F v B g cap wg wc L ws D P Z gp cp gz cz Y := ⟨k.t.below hb, k.d.below hb, k.a.below hb, keepb hb k.b⟩
end Go.Proofs.Ytofpbommhklooaa
/-
  The document's Down.
-/
namespace Go.Proofs.Ytofpbommhklooaa
open Go.RowKit
set_option linter.unusedSimpArgs false
set_option linter.unusedVariables false
attribute [local go_sem] Oper.semAt_some

theorem atL_step8 (L : List Nd) (v : Int) {n k : Nat} (h : n ≤ k) : atL L v n (k + 1 - n) = atL L v n (k - n) ++ (if ln L k = v then [(k : Int)] else []) := by
  rw [show k + 1 - n = (k - n) + 1 by omega]
  show atL L v n (k - n) ++ (if ln L (n + (k - n)) = v then [((n + (k - n) : Nat) : Int)] else []) = _
  rw [show n + (k - n) = k by omega]
theorem atL_len8 (L : List Nd) (v : Int) (a : Nat) : ∀ m, (atL L v a m).length ≤ m
  | 0 => Nat.le_refl _
  | m + 1 => by
    have := atL_len8 L v a m
    simp only [atL, List.length_append]
    split <;> simp <;> omega
theorem own_bel8 {w w' : World} {base e size n : Nat} {v : Value} {xs : List Value} (hb : Below w.heap.size w w') (h : w.ownsRow base e size v n xs) : w'.ownsRow base e size v n xs := own_blk h (fun g q => hb.block g (h.lt g q).2)
section
variable (D : Nat) (F : Int) (v : Value) (P : List (BitVec 128 × Int)) (Z : List Int) (gp cp gz cz : Nat)
end
end Go.Proofs.Ytofpbommhklooaa
/-
  Plain facts: two prefixes are apart, or one lies within the other; what has an address lies between the ends.
-/
namespace Go.Proofs.Ytofpbommhklooaa
open Go.RowKit
set_option linter.unusedSimpArgs false
set_option linter.unusedVariables false

theorem last_bit (F : Int) (x : BitVec 128) (n : Int) (j : Nat) (hj : j < 128) : (lastW F x n).getLsbD j = (x.getLsbD j || (xor (decide (128 - F.toNat ≤ j)) (decide (128 - n.toNat ≤ j)))) := by
  unfold lastW
  rw [BitVec.getLsbD_or, BitVec.getLsbD_xor, maskW_bit F j hj, maskW_bit n j hj]
theorem cut_bit (x : BitVec 128) (n : Int) (j : Nat) (hj : j < 128) : (cutW x n).getLsbD j = (x.getLsbD j && decide (128 - n.toNat ≤ j)) := by
  unfold cutW
  rw [BitVec.getLsbD_and, maskW_bit n j hj]
theorem last_cut (F : Int) (x : BitVec 128) (n : Int) (h : Rt F x n) : cutW (lastW F x n) n = x := by
  apply BitVec.eq_of_getLsbD_eq
  intro j hj
  have hx := congrArg (fun z => z.getLsbD j) h.2.2
  simp only [cut_bit x n j hj] at hx
  rw [cut_bit _ n j hj, last_bit F x n j hj]
  have h1 := h.1; have h2 := h.2.1
  by_cases c : 128 - n.toNat ≤ j
  · have d : 128 - F.toNat ≤ j := by omega
    simp [c, d]
  · simp [c] at hx ⊢
    exact hx
theorem last_fam (F : Int) (x : BitVec 128) (n : Int) (h : Rt F x n) : cutW (lastW F x n) F = lastW F x n := by
  apply BitVec.eq_of_getLsbD_eq
  intro j hj
  have hx := congrArg (fun z => z.getLsbD j) h.2.2
  simp only [cut_bit x n j hj] at hx
  rw [cut_bit _ F j hj, last_bit F x n j hj]
  have h1 := h.1; have h2 := h.2.1
  by_cases d : 128 - F.toNat ≤ j
  · simp [d]
  · have c : ¬ 128 - n.toNat ≤ j := by omega
    simp [c] at hx
    simp [c, d, hx]
theorem cut_le (x : BitVec 128) (n : Int) : (cutW x n).toNat ≤ x.toNat := by
  rw [cut_nat]; exact Nat.div_mul_le_self _ _
theorem le_last (F : Int) (x : BitVec 128) (n : Int) (h : Rt F x n) (c : BitVec 128) (hc : cutW c F = c) (hx : cutW c n = x) : c.toNat ≤ (lastW F x n).toNat := by
  have e : c &&& lastW F x n = c := by
    apply BitVec.eq_of_getLsbD_eq
    intro j hj
    have e1 := congrArg (fun z => z.getLsbD j) hc
    have e2 := congrArg (fun z => z.getLsbD j) hx
    simp only [cut_bit c F j hj, cut_bit c n j hj] at e1 e2
    rw [BitVec.getLsbD_and, last_bit F x n j hj]
    by_cases a : 128 - n.toNat ≤ j
    · simp [a] at e2
      rw [e2]
      cases x.getLsbD j <;> simp
    · by_cases b : 128 - F.toNat ≤ j
      · simp [a, b]
      · simp [b] at e1
        rw [e1]; simp
  rw [← e, BitVec.toNat_and]
  exact Nat.and_le_right
theorem has_ends (F : Int) (x : BitVec 128) (n : Int) (h : Rt F x n) (c : BitVec 128) (hc : cutW c F = c) : cutW c n = x ↔ (x.toNat ≤ c.toNat ∧ c.toNat ≤ (lastW F x n).toNat) := by
  constructor
  · intro e
    exact ⟨by rw [← e]; exact cut_le c n, le_last F x n h c hc e⟩
  · rintro ⟨h1, h2⟩
    have a := cut_mono x c n h1
    have b := cut_mono c _ n h2
    rw [h.2.2] at a
    rw [last_cut F x n h] at b
    exact BitVec.eq_of_toNat_eq (by omega)
theorem cmp_le (x y : BitVec 128) : cmpZ x y ≤ 0 ↔ x.toNat ≤ y.toNat := by
  rcases cmpZ_ways x y with ⟨h, e⟩ | ⟨h, e⟩ | ⟨h, e⟩ <;> rw [e]
  · exact ⟨fun _ => by omega, fun _ => by decide⟩
  · exact ⟨fun _ => by rw [h]; omega, fun _ => by decide⟩
  · exact ⟨fun q => absurd q (by decide), fun q => by omega⟩
theorem cmp_lt0 (x y : BitVec 128) : cmpZ x y < 0 ↔ x.toNat < y.toNat := by
  rcases cmpZ_ways x y with ⟨h, e⟩ | ⟨h, e⟩ | ⟨h, e⟩ <;> rw [e]
  · exact ⟨fun _ => h, fun _ => by decide⟩
  · exact ⟨fun q => absurd q (by decide), fun q => by rw [h] at q; omega⟩
  · exact ⟨fun q => absurd q (by decide), fun q => by omega⟩
theorem rt_fam (F : Int) (x : BitVec 128) (n : Int) (h : Rt F x n) : cutW x F = x := by
  have := cut_cut2 x n F h.1 h.2.1
  rwa [h.2.2] at this
/-- If one ends ahead of the other, neither lies within the other. -/
theorem ahead_no (F : Int) (x : BitVec 128) (n : Int) (y : BitVec 128) (m : Int) (hx : Rt F x n) (hy : Rt F y m) (h : (lastW F x n).toNat < y.toNat) : withinB x n y m = false ∧ withinB y m x n = false := by
  constructor
  · cases q : withinB x n y m
    · rfl
    · rw [within_iff] at q
      have a := cut_le x m
      rw [q.2] at a
      have b := (has_ends F x n hx x (rt_fam F x n hx)).mp hx.2.2
      omega
  · cases q : withinB y m x n
    · rfl
    · rw [within_iff] at q
      have b := (has_ends F x n hx y (rt_fam F y m hy)).mp q.2
      omega
theorem apart_of (F : Int) (x : BitVec 128) (n : Int) (y : BitVec 128) (m : Int) (hx : Rt F x n) (hy : Rt F y m) (hnm : n ≤ m) (h : withinB y m x n = false) : (lastW F x n).toNat < y.toNat ∨ (lastW F y m).toNat < x.toNat := by
  have hc : ¬ cutW y n = x := by
    intro e
    have := (within_iff y m x n).mpr ⟨hnm, e⟩
    rw [h] at this; cases this
  rcases Nat.lt_or_ge (cutW y n).toNat x.toNat with q | q
  · right
    apply Classical.byContradiction
    intro c
    have a := cut_mono x (lastW F y m) n (by omega)
    rw [hx.2.2, ← cut_cut (lastW F y m) n m hx.1 hnm, last_cut F y m hy] at a
    omega
  · left
    apply Classical.byContradiction
    intro c
    have a := cut_mono y (lastW F x n) n (by omega)
    rw [last_cut F x n hx] at a
    exact hc (BitVec.eq_of_toNat_eq (by omega))
theorem apart_iff (F : Int) (x : BitVec 128) (n : Int) (y : BitVec 128) (m : Int) (hx : Rt F x n) (hy : Rt F y m) :
    ((lastW F x n).toNat < y.toNat ∨ (lastW F y m).toNat < x.toNat) ↔ (withinB x n y m = false ∧ withinB y m x n = false) := by
  constructor
  · rintro (h | h)
    · exact ahead_no F x n y m hx hy h
    · exact (ahead_no F y m x n hy hx h).symm
  · rintro ⟨h1, h2⟩
    by_cases c : n ≤ m
    · exact apart_of F x n y m hx hy c h2
    · exact (apart_of F y m x n hy hx (by omega) h1).symm
theorem both_eq (F : Int) (x : BitVec 128) (n : Int) (y : BitVec 128) (m : Int) (hx : Rt F x n) (hy : Rt F y m) : (withinB x n y m && withinB y m x n) = ((x == y) && (n == m)) := by
  rw [Bool.eq_iff_iff]
  simp only [Bool.and_eq_true, within_iff, beq_iff_eq]
  constructor
  · rintro ⟨⟨a, b⟩, c, d⟩
    have e : n = m := by omega
    subst e
    exact ⟨by rw [← d, hy.2.2], rfl⟩
  · rintro ⟨rfl, rfl⟩
    exact ⟨⟨Int.le_refl _, hx.2.2⟩, Int.le_refl _, hx.2.2⟩
theorem within_ends (F : Int) (x : BitVec 128) (n : Int) (y : BitVec 128) (m : Int) (hx : Rt F x n) (hy : Rt F y m) (h : withinB x n y m = true) : ¬ 0 < cmpZ y x ∧ ¬ 0 < cmpZ (lastW F x n) (lastW F y m) := by
  rw [within_iff] at h
  have a : cmpZ y x ≤ 0 := (cmp_le y x).mpr (by rw [← h.2]; exact cut_le x m)
  have hl : cutW (lastW F x n) m = y := by rw [← cut_cut (lastW F x n) m n hy.1 h.1, last_cut F x n hx, h.2]
  have b : cmpZ (lastW F x n) (lastW F y m) ≤ 0 := (cmp_le _ _).mpr (le_last F y m hy _ (last_fam F x n hx) hl)
  exact ⟨by omega, by omega⟩
theorem within_has (F : Int) (x : BitVec 128) (n : Int) (y : BitVec 128) (m : Int) (c : BitVec 128) (hy : Rt F y m) (h : withinB x n y m = true) (hc : (cutW c n == x) = true) : (cutW c m == y) = true := by
  rw [within_iff] at h
  have e : cutW c n = x := by simpa using hc
  have := cut_cut c m n hy.1 h.1
  rw [e, h.2] at this
  simp [← this]
end Go.Proofs.Ytofpbommhklooaa
