/-
  Part 14 of the proof: 4 texts, one behind the other.
-/
import Derived.Test.YtologchdnjnadaaDoorPart13
import Derived.Shelf.Strings.Builder1
import Derived.Lib.OthersKept
import Derived.Test.YtologchdnjnadaaDoorPart3
/-
  The library's Builder, as far as code's text is written with it: copyCheck, WriteByte, WriteString, String; what else lies in memory stays.
-/
namespace Go.Proofs.YtologchdnjnadaaDoor
open Go.RowKit
set_option linter.unusedSimpArgs false
set_option linter.unusedVariables false

abbrev TB : TypeId := 40
/-- A builder in a block of its own, all of it made from that block on. -/
abbrev IsB (b : Nat) (t : List UInt8) (w : World) : Prop := Lib.IsBuilder 40 5 b b (Lib.byteCells t) w
abbrev OKb (b : Nat) (w w' : World) : Prop := Below b w w' ∧ Lib.OthersKept 5 (some b) w w'
theorem OKb.trans {b : Nat} {w W X : World} (h : OKb b w W) (g : OKb b W X) : OKb b w X := ⟨⟨by rw [g.1.os, h.1.os], by rw [g.1.tape, h.1.tape], by rw [g.1.output, h.1.output], Nat.le_trans h.1.size g.1.size, fun z hz => by rw [g.1.block z hz, h.1.block z hz]⟩, h.2.trans g.2⟩
theorem OKb.refl (b : Nat) (w : World) : OKb b w w := ⟨Below.refl _ _, Lib.OthersKept.refl _ _ _⟩
theorem OKb.ofB {b : Nat} {w w' : World} (h : Below w.heap.size w w') (hb : b ≤ w.heap.size) : OKb b w w' := ⟨h.mono hb, fun z o hz _ _ => by rw [h.block z (lt_b15 hz)]; exact hz⟩
theorem Tryd.bx72 : (Tryd.prog.info? 40).map (·.size) = some 2 := by kernel_rfl
theorem Tryd.bxl : liesAt Tryd.prog Tryd.prog.depth 40 (2 / Tryd.prog.cellsOf 40) 0 40 1 = true := by kernel_rfl
set_option maxHeartbeats 1000000 in
set_option maxRecDepth 100000 in
theorem bcheck_used (b : Nat) (w : World) (h0 : w.cell? ⟨b, 0, none⟩ = some (.pointer (some ⟨b, 0, none⟩))) :
    Calls Tryd.prog 44 #[.pointer (some ⟨b, 0, none⟩)] w fun e w' => e = .returned (.tuple #[]) ∧ w' = w := by
  obtain ⟨j, hj, _⟩ := Option.map_eq_some_iff.1 Tryd.bx72
  go_enter Tryd.func44, Tryd.ntmps44
  go_wp2
  rw [Lib.run_neq_ptr_same w _ Tryd.underlying38 hj]
  go_wp2
  go_end0
  exact ⟨rfl, rfl⟩
set_option maxHeartbeats 1000000 in
set_option maxRecDepth 100000 in
theorem bcheck_fresh (b : Nat) (w : World) (h0 : w.cell? ⟨b, 0, none⟩ = some (.pointer none)) (hsh : w.shape? b = some (40, 2)) (hfz : w.frozen? ⟨b, 0, none⟩ = false) :
    Calls Tryd.prog 44 #[.pointer (some ⟨b, 0, none⟩)] w fun e w' => e = .returned (.tuple #[]) ∧ w' = w.setCell ⟨b, 0, none⟩ (.pointer (some ⟨b, 0, none⟩)) := by
  obtain ⟨j, hj, hjs⟩ := Option.map_eq_some_iff.1 Tryd.bx72
  go_enter Tryd.func44, Tryd.ntmps44
  go_wp2
  rw [Lib.run_to_unsafe w ⟨b, 0, none⟩ Tryd.underlying38 Tryd.underlying105 hj (by rw [hjs]; decide) hsh (Nat.zero_lt_succ 1)]
  simp only [Result.andThen]
  rw [Oper.upon_value]
  go_wp2
  rw [run_callFunc_extern Tryd.func59 (by kernel_rfl) (by kernel_rfl) (by kernel_rfl) (e := Extern.AbiNoEscape.same) (by kernel_rfl)]
  rw [Lib.run_noEscape]
  simp only [Result.andThen]
  rw [Oper.upon_value]
  go_wp2
  rw [Lib.run_from_unsafe w ⟨b, 0, none⟩ Tryd.underlying105 Tryd.underlying38 hj hsh Tryd.bxl]
  simp only [Result.andThen]
  rw [Oper.upon_value]
  go_wp2
  go_end0
  exact ⟨rfl, rfl⟩
theorem bcheck_any (b : Nat) (t : List UInt8) (w : World) (h : IsB b t w) :
    Calls Tryd.prog 44 #[.pointer (some ⟨b, 0, none⟩)] w fun e w' => e = .returned (.tuple #[]) ∧ Lib.BuilderAt 40 5 b b (.pointer (some ⟨b, 0, none⟩)) (Lib.byteCells t) w' ∧ OKb b w w' := by
  rcases h with h | h
  · refine (bcheck_fresh b w h.cell0 h.shape h.frozen0).mono ?_
    rintro e w' ⟨rfl, rfl⟩
    exact ⟨rfl, h.used _, (Below.refl b w).setCell (p := ⟨b, 0, none⟩) h.1 _, Lib.OthersKept.setCell (b := b) (Lib.OthersKept.refl _ _ _) ⟨b, 0, none⟩ rfl _⟩
  · refine (bcheck_used b w h.cell0).mono ?_
    rintro e w' ⟨rfl, rfl⟩
    exact ⟨rfl, h, OKb.refl _ _⟩
theorem own_isrow {w : World} {base e n g : Nat} {v : Value} {xs : List Value} (h : w.ownsRow base e 1 v n xs) (hg : v.ownBlock = some g) : ∃ c fz, w.heap[g]? = some (.cells c e fz) := by
  rcases h.2 with ⟨hv, _⟩ | ⟨g', cap, cur, hv, hh⟩
  · rw [hv] at hg; cases hg
  · rw [hv] at hg
    injection hg with hg
    subst hg
    exact ⟨_, _, hh.2.1⟩
theorem infoB15 : (Tryd.prog.info? 5).map (fun i => (i.zero, i.size, i.bytes)) = some (some (.int .u8 0), 1, 1) := by kernel_rfl
set_option maxHeartbeats 2000000 in
set_option maxRecDepth 100000 in
theorem wbyte_any (b : Nat) (t : List UInt8) (c : UInt8) (w : World) (h : IsB b t w) (hlen : t.length ≤ 100000000000) (hbw : b ≤ w.heap.size) :
    Calls Tryd.prog 27 #[.pointer (some ⟨b, 0, none⟩), .int .u8 (c.toNat : Int)] w fun e w' => e = .returned .nilIface ∧ IsB b (t ++ [c]) w' ∧ OKb b w w' := by
  obtain ⟨i0, hi, hz0, hz1, hz2⟩ := info13 infoB15
  have K := bcheck_any b t w h
  have hl : (Lib.byteCells t).length = t.length := by simp [Lib.byteCells]
  go_enter Tryd.func27, Tryd.ntmps27
  go_wp2_with fail
  refine K.mono ?_
  rintro e w1 ⟨rfl, h1, hb1⟩
  obtain ⟨hB, v, hbk, hown, hne⟩ := h1
  have c1 : w1.cell? ⟨b, 1, none⟩ = some v := by rw [Lib.cell_of_heap hbk]; rfl
  have hsz : w.heap.size ≤ w1.heap.size := hb1.1.size
  clear K h
  go_wp2_with (at_builtin; apply stopHere9)
  refine (show wpList _ _ _ _ _ _ from ?_)
  refine wpList_append_own _ rfl _ _ 22 rfl b 5 i0 (.int .u8 0) 1 1 Tryd.underlying22 hi hz0 hz1 hz2 rfl (by decide) _ _ _ rfl (hown.alloc _) ⟨w1.heap.size, 0, none⟩ 1 1 [.int .u8 (c.toNat : Int)] rfl rfl ?c1 ?c2 ?c3 ?c4 ?c5 ?_
  case c1 =>
    intro j u hj
    match j, hj with
    | 0, hj => simp at hj; subst hj; simp [Addr.add]
  case c2 => intro u hu; simp at hu; subst hu; rfl
  case c3 => unfold maxLen; omega
  case c4 => omega
  case c5 => simp; omega
  intro v' w2 hown' hgrow _
  have hlt : b < w1.heap.size := lt_b15 hbk
  have hb2 : w2.heap[b]? = some (.cells #[.pointer (some ⟨b, 0, none⟩), v] 40 (0, 0)) := by
    rw [hgrow.block b (by simp; omega) (fun e => hne e.symm), Lib.alloc_old w1 _ b hlt]
    exact hbk
  have d1 : w2.cell? ⟨b, 1, none⟩ = some v := by rw [Lib.cell_of_heap hb2]; rfl
  have f1 : w2.frozen? ⟨b, 1, none⟩ = false := Lib.frozen_of_heap hb2 1
  obtain ⟨ao, n', cap, rfl⟩ : ∃ ao n' cap, v' = .slice ao n' cap := by
    rcases hown'.2 with ⟨hv, _⟩ | ⟨g, cap, cur, hv, _⟩
    · exact ⟨_, _, _, hv⟩
    · exact ⟨_, _, _, hv⟩
  have HF : Hid (IsB b (t ++ [c]) (w2.setCell ⟨b, 1, none⟩ (.slice ao n' cap)) ∧ OKb b w (w2.setCell ⟨b, 1, none⟩ (.slice ao n' cap))) := hid13 ⟨.inr (by
      have := Lib.BuilderAt.put (T := 40) (e := 5) hB hb2 (v' := .slice ao n' cap) (bs' := Lib.byteCells t ++ [.int .u8 (c.toNat : Int)]) (by simpa using hown') (by decide)
      have e : Lib.byteCells (t ++ [c]) = Lib.byteCells t ++ [.int .u8 (c.toNat : Int)] := by simp [Lib.byteCells]
      rw [e]; exact this), hb1.trans ⟨((Below.refl b w1).alloc (by omega) _).grown hgrow (by simp; omega) (fun k hk => (hown.lt k hk).1) |>.setCell (p := ⟨b, 1, none⟩) hB _, Lib.OthersKept.setCell (b := b) (((Lib.OthersKept.refl _ _ _).alloc _).grown hgrow (fun g hg => own_isrow (hown.alloc _) hg)) ⟨b, 1, none⟩ rfl _⟩⟩
  clear hown' hgrow hb1 hown hb2 hbk
  go_wp2
  go_ret
  exact ⟨rfl, HF.out.1, HF.out.2⟩
set_option maxHeartbeats 2000000 in
set_option maxRecDepth 100000 in
theorem wstr_any (b : Nat) (t : List UInt8) (s : ByteArray) (w : World) (h : IsB b t w) (hlen : t.length + s.size ≤ 100000000000) (hbw : b ≤ w.heap.size) :
    Calls Tryd.prog 25 #[.pointer (some ⟨b, 0, none⟩), .string s] w fun e w' => e = .returned (.tuple #[.int .i64 s.size, .nilIface]) ∧ IsB b (t ++ s.data.toList) w' ∧ OKb b w w' := by
  obtain ⟨i0, hi, hz0, hz1, hz2⟩ := info13 infoB15
  have K := bcheck_any b t w h
  have hl : (Lib.byteCells t).length = t.length := by simp [Lib.byteCells]
  go_enter Tryd.func25, Tryd.ntmps25
  go_wp2_with fail
  refine K.mono ?_
  rintro e w1 ⟨rfl, h1, hb1⟩
  obtain ⟨hB, v, hbk, hown, hne⟩ := h1
  have c1 : w1.cell? ⟨b, 1, none⟩ = some v := by rw [Lib.cell_of_heap hbk]; rfl
  have hsz : w.heap.size ≤ w1.heap.size := hb1.1.size
  clear K h
  go_wp2_with (at_builtin; apply stopHere9)
  refine (show wpList _ _ _ _ _ _ from ?_)
  refine Lib.wpList_append_own_string _ rfl _ _ 22 9 rfl b 5 i0 Tryd.underlying22 Tryd.underlying9 hi hz0 hz1 hz2 _ _ _ rfl hown s rfl ?c3 ?c4 ?c5 ?_
  case c3 => unfold maxLen; omega
  case c4 => omega
  case c5 => omega
  intro v' w2 hown' hgrow _
  have hlt : b < w1.heap.size := lt_b15 hbk
  have hb2 : w2.heap[b]? = some (.cells #[.pointer (some ⟨b, 0, none⟩), v] 40 (0, 0)) := by
    rw [hgrow.block b hlt (fun e => hne e.symm)]
    exact hbk
  have d1 : w2.cell? ⟨b, 1, none⟩ = some v := by rw [Lib.cell_of_heap hb2]; rfl
  have f1 : w2.frozen? ⟨b, 1, none⟩ = false := Lib.frozen_of_heap hb2 1
  obtain ⟨ao, n', cap, rfl⟩ : ∃ ao n' cap, v' = .slice ao n' cap := by
    rcases hown'.2 with ⟨hv, _⟩ | ⟨g, cap, cur, hv, _⟩
    · exact ⟨_, _, _, hv⟩
    · exact ⟨_, _, _, hv⟩
  have HF : Hid (IsB b (t ++ s.data.toList) (w2.setCell ⟨b, 1, none⟩ (.slice ao n' cap)) ∧ OKb b w (w2.setCell ⟨b, 1, none⟩ (.slice ao n' cap))) := hid13 ⟨.inr (by
      have := Lib.BuilderAt.put (T := 40) (e := 5) hB hb2 (v' := .slice ao n' cap) (bs' := Lib.byteCells t ++ Lib.strCells s) (by simpa [Lib.strCells_length] using hown') (by decide)
      have e : Lib.byteCells (t ++ s.data.toList) = Lib.byteCells t ++ Lib.strCells s := by simp [Lib.byteCells, Lib.strCells]
      rw [e]; exact this), hb1.trans ⟨(Below.refl b w1).grown hgrow (by omega) (fun k hk => (hown.lt k hk).1) |>.setCell (p := ⟨b, 1, none⟩) hB _, Lib.OthersKept.setCell (b := b) ((Lib.OthersKept.refl _ _ _).grown hgrow (fun g hg => own_isrow hown hg)) ⟨b, 1, none⟩ rfl _⟩⟩
  clear hown' hgrow hb1 hown hb2 hbk
  go_wp2
  go_ret2
  exact ⟨rfl, HF.out.1, HF.out.2⟩
set_option maxRecDepth 100000 in
theorem Tryd.bExtra : Builder.Extra Tryd.prog Tryd.lays169_ren where
  sizeBuilder := by kernel_rfl
  liesBuilder := by kernel_rfl
  t5 := Tryd.underlying5
  a5 := Tryd.isAgg5
  z5 := Tryd.sizeOf5
  v5 := Tryd.zeroValue5
  infoByte := by kernel_rfl
  cellsByte := by kernel_rfl
  sizeByte := by kernel_rfl
  neB5 := by decide
set_option maxRecDepth 100000 in
theorem bstr_any (b : Nat) (t : List UInt8) (w : World) (h : IsB b t w) (hbw : b ≤ w.heap.size) :
    Calls Tryd.prog 15 #[.pointer (some ⟨b, 0, none⟩)] w fun e w' => e = .returned (.string ⟨t.toArray⟩) ∧ Below b w w' :=
  Any.Builder_String_any Tryd.lays169 Tryd.bExtra b b t w h hbw
end Go.Proofs.YtologchdnjnadaaDoor
/-
  Words written by their digits: writeWords.
-/
namespace Go.Proofs.YtologchdnjnadaaDoor
open Go.RowKit
set_option linter.unusedSimpArgs false
set_option linter.unusedVariables false

/-- A digit of sixteen. -/
def dg16 (d : Nat) : UInt8 := l16.getD d 0
/-- The last c digits of a word, the greatest first. -/
def hexN (x : Nat) : Nat → List UInt8
  | 0 => []
  | c + 1 => dg16 (x / 16 ^ c % 16) :: hexN x c
def hexL (x : BitVec 32) : List UInt8 := hexN x.toNat 8
def wdsL (m : List (BitVec 32)) : List UInt8 := m.flatMap fun x => 32 :: hexL x
theorem hexN_len (x c : Nat) : (hexN x c).length = c := by induction c with | zero => rfl | succ c ih => simp [hexN, ih]
theorem wdsL_len (m : List (BitVec 32)) : (wdsL m).length = 9 * m.length := by
  induction m with
  | nil => rfl
  | cons x m ih => unfold wdsL at ih ⊢; rw [List.flatMap_cons, List.length_append, ih]; simp [hexL, hexN_len]; omega
theorem wdsL_snoc (m : List (BitVec 32)) (x : BitVec 32) : wdsL (m ++ [x]) = wdsL m ++ (32 :: hexL x) := by unfold wdsL; rw [List.flatMap_append]; simp
theorem OKb.rwx {b : Nat} {w w' : World} {v : Value} {m : List (BitVec 32)} (h : OKb b w w') (hr : ∀ a n c, v = .slice (some a) n c → a.block < b ∨ (a.block ≠ b ∧ ∃ cs fz, w.heap[a.block]? = some (.cells cs 48 fz))) (hv : RwX cU w v m) : RwX cU w' v m := by
  obtain ⟨ao, c, e, hc, hq⟩ := hv
  refine ⟨ao, c, e, hc, ?_⟩
  rcases hq with hq | ⟨g, off, e2, hq⟩
  · exact .inl hq
  · refine .inr ⟨g, off, e2, fun j x hj => ?_⟩
    have hcell := hq j x hj
    have hblk : w'.heap[g]? = w.heap[g]? := by
      rcases hr ⟨g, off, none⟩ _ _ (by rw [e, e2]) with hlt | ⟨hne, cs, fz, hz⟩
      · exact h.1.block g hlt
      · rw [h.2 g _ hz (by intro e; injection e with e; exact hne e) (by intro c' fz' e; injection e with e1 e2 e3; revert e2; decide), hz]
    unfold World.cell? at hcell ⊢
    rw [hblk]
    exact hcell
/-- The words' row lies apart of the builder's. -/
def Apt (b : Nat) (v : Value) (w : World) : Prop := ∀ a n c, v = .slice (some a) n c → a.block < b ∨ (a.block ≠ b ∧ ∃ cs fz, w.heap[a.block]? = some (.cells cs 48 fz))
theorem Apt.keep {b : Nat} {v : Value} {w w' : World} (hr : Apt b v w) (h : OKb b w w') : Apt b v w' := fun a n c e => by
  rcases hr a n c e with hlt | ⟨hne, cs, fz, hz⟩
  · exact .inl hlt
  · exact .inr ⟨hne, cs, fz, h.2 _ _ hz (by intro e; injection e with e; exact hne e) (by intro c' fz' e; injection e with e1 e2 e3; revert e2; decide)⟩
theorem pow16 (k : Nat) : 2 ^ (k * 4) = 16 ^ k := by rw [Nat.mul_comm, Nat.pow_mul]
theorem shr15 (x : BitVec 32) (k : Nat) : uI x / 2 ^ (k * 4) = ((x.toNat / 16 ^ k : Nat) : Int) := by
  rw [uI_eq]
  have h2 : (2 : Int) ^ (k * 4) = ((16 ^ k : Nat) : Int) := by rw [← pow16]; norm_cast
  rw [h2]
  norm_cast
def kI (c : Nat) : Int := (c : Int) - 1
theorem l16_at (d : Nat) (h : d < (⟨#[48, 49, 50, 51, 52, 53, 54, 55, 56, 57, 97, 98, 99, 100, 101, 102]⟩ : ByteArray).size) : (((⟨#[48, 49, 50, 51, 52, 53, 54, 55, 56, 57, 97, 98, 99, 100, 101, 102]⟩ : ByteArray)[d]).toNat : Int) = ((dg16 d).toNat : Int) := by
  have : ∀ d : Fin 16, ((l16[d.val]'d.isLt).toNat : Int) = ((dg16 d.val).toNat : Int) := by decide
  exact this ⟨d, h⟩
set_option maxHeartbeats 4000000 in
theorem wwords_any (b : Nat) (t : List UInt8) (v : Value) (m : List (BitVec 32)) (w : World) (h : IsB b t w) (hm : RwX cU w v m) (ha : Apt b v w) (hlen : t.length + 9 * m.length ≤ 10000000000) (hbw : b ≤ w.heap.size) :
    Calls Tryd.prog 26 #[.pointer (some ⟨b, 0, none⟩), v] w fun e w' => e = .returned (.tuple #[]) ∧ IsB b (t ++ wdsL m) w' ∧ OKb b w w' := by
  obtain ⟨ao, cp, rfl, -⟩ := id hm
  have HS0 : Hid (IsB b (t ++ wdsL (m.take 0)) w ∧ OKb b w w) := hid13 ⟨by rw [List.take_zero]; show IsB b (t ++ []) w; rw [List.append_nil]; exact h, OKb.refl _ _⟩
  have HM := hid13 hm
  have HA := hid13 ha
  have HL : Hid (t.length + 9 * m.length ≤ 10000000000 ∧ b ≤ w.heap.size) := ⟨hlen, hbw⟩
  clear h hm ha hlen hbw
  go_enter Tryd.func26, Tryd.ntmps26
  go_wp2
  go_loopg [5, 6, 9] m.length (fun g x5 x6 x9 wr => ∃ j : Nat, j + g = m.length ∧ x9 = .int .i64 (j : Int) ∧ Hid (IsB b (t ++ wdsL (m.take j)) wr ∧ OKb b w wr))
  case atStart => exact ⟨0, by omega, rfl, HS0⟩
  case round =>
    clear HS0
    obtain ⟨G, rfl⟩ : ∃ G, G = gk := ⟨_, rfl⟩
    obtain ⟨j, hj, rfl, HS⟩ := hrel
    by_cases hlt : j < m.length
    · have hli : (j : Int) < (m.length : Int) := by omega
      obtain ⟨x, hx⟩ : ∃ x, x = m[j] := ⟨_, rfl⟩
      have hrd : ∃ g off, ao = some ⟨g, off, none⟩ ∧ wr.cell? ⟨g, off + j, none⟩ = some (.int .u32 (uI x)) := by
        obtain ⟨ao', cp', e, hc, hq⟩ := HS.out.2.rwx HA.out HM.out
        injection e with e1 e2 e3
        rcases hq with hq | ⟨g, off, e4, hq⟩
        · subst hq; simp at hlt
        · exact ⟨g, off, by rw [e1, e4], hq j x (by rw [hx]; simp [hlt])⟩
      obtain ⟨g, off, rfl, hcell⟩ := hrd
      have htk : m.take (j + 1) = m.take j ++ [x] := by rw [List.take_succ_eq_append_getElem hlt, hx]
      obtain ⟨T0, hT0⟩ : ∃ T0, T0 = t ++ wdsL (m.take j) := ⟨_, rfl⟩
      have hT0l : T0.length ≤ 10000000000 := by rw [hT0, List.length_append, wdsL_len, List.length_take]; have := HL.out; omega
      have K1 := wbyte_any b T0 32 wr (by rw [hT0]; exact HS.out.1) (by omega) (Nat.le_trans HL.out.2 HS.out.2.1.size)
      have HT : Hid (t ++ wdsL (m.take (j + 1)) = (T0 ++ [32]) ++ hexN x.toNat 8) := hid13 (by rw [htk, wdsL_snoc, hT0]; simp [hexL])
      have HT0 : Hid (T0.length ≤ 10000000000) := hid13 hT0l
      have HK : Hid (j + G = m.length ∧ j < m.length ∧ m.length ≤ 10000000000) := ⟨hj, hlt, by have := HL.out; omega⟩
      have mj : IntKind.i64.wrap ((j : Int) + 1) = (j : Int) + 1 := by rw [IntKind.wrap_i64]; have := HK.out; omega
      have HO := hid13 HS.out.2
      clear HS hx htk hT0 hT0l hj hlt
      go_wp2_with fail
      refine K1.mono ?_
      rintro e w1 ⟨rfl, h1, h2⟩
      have H1 : Hid (IsB b (T0 ++ [32]) w1 ∧ OKb b w w1) := ⟨h1, HO.out.trans h2⟩
      clear K1 h1 h2 HO hcell
      go_wp2
      go_loopg [6] 8 (fun g6 x6 wr2 => ∃ (D : List UInt8), x6 = .int .i64 (kI g6) ∧ Hid (IsB b D wr2 ∧ OKb b w wr2 ∧ D ++ hexN x.toNat g6 = (T0 ++ [32]) ++ hexN x.toNat 8 ∧ g6 ≤ 8))
      case atStart => exact ⟨T0 ++ [32], rfl, hid13 ⟨H1.out.1, H1.out.2, rfl, Nat.le_refl _⟩⟩
      case round =>
        obtain ⟨D, rfl, H2⟩ := hrel
        clear H1
        cases gk with
        | zero =>
          have k0 : kI 0 = -1 := rfl
          rw [k0]
          have H3 : Hid (IsB b (t ++ wdsL (m.take (j + 1))) wr ∧ OKb b w wr) := hid13 ⟨by have := H2.out.2.2.1; rw [show hexN x.toNat 0 = [] from rfl, List.append_nil] at this; rw [HT.out, ← this]; exact H2.out.1, H2.out.2.1⟩
          clear H2 k0
          go_wp2
          go_roundg (G - 1)
          case measure => have := HK.out; omega
          case rel => exact ⟨j + 1, by have := HK.out; omega, rfl, H3⟩
        | succ c =>
          have k1 : kI (c + 1) = (c : Int) := by unfold kI; omega
          rw [k1]
          have hc8 : c < 8 := by have := H2.out.2.2.2; omega
          have m1 : IntKind.i64.wrap ((c : Int) * 4) = (c : Int) * 4 := by rw [IntKind.wrap_i64]; omega
          have hs := shr15 x c
          obtain ⟨N, hN⟩ : ∃ N, N = x.toNat / 16 ^ c := ⟨_, rfl⟩
          rw [← hN] at hs
          obtain ⟨d, hd⟩ : ∃ d, d = N % 16 := ⟨_, rfl⟩
          have hd16 : d < 16 := by omega
          have m2 : (N : Int) % 16 = (d : Int) := by omega
          have m2' : (N : Int).tmod 16 = (d : Int) := by rw [Int.tmod_eq_emod_of_nonneg (by omega)]; omega
          have hdi : (d : Int) < 16 := by omega
          have hat := l16_at d (by show d < 16; exact hd16)
          have m3 : IntKind.i64.wrap ((c : Int) - 1) = kI c := by rw [IntKind.wrap_i64]; unfold kI; omega
          have HD : Hid (hexN x.toNat (c + 1) = dg16 d :: hexN x.toNat c) := hid13 (by rw [hd, hN]; rfl)
          have hDl : D.length ≤ 10000000100 := by
            have h1 := congrArg List.length H2.out.2.2.1
            simp only [List.length_append, hexN_len, List.length_singleton] at h1
            have := HT0.out
            omega
          have K2 := wbyte_any b D (dg16 d) wr H2.out.1 (by omega) (Nat.le_trans HL.out.2 H2.out.2.1.1.size)
          clear k1 hN hd hDl
          go_wp2_with fail
          refine K2.mono ?_
          rintro e w3 ⟨rfl, h1, h2⟩
          have H3 : Hid (IsB b (D ++ [dg16 d]) w3 ∧ OKb b w w3) := ⟨h1, H2.out.2.1.trans h2⟩
          clear K2 h1 h2 hat
          go_wp2
          go_roundg c
          case measure => omega
          case rel => exact ⟨D ++ [dg16 d], rfl, hid13 ⟨H3.out.1, H3.out.2, by have := H2.out.2.2.1; rw [HD.out] at this; rw [← this]; simp, by omega⟩⟩
    · have hli : ¬ (j : Int) < (m.length : Int) := by omega
      obtain rfl : j = m.length := by omega
      have H3 : Hid (IsB b (t ++ wdsL m) wr ∧ OKb b w wr) := hid13 (by have := HS.out; rw [List.take_length] at this; exact this)
      go_wp2
      go_end0
      exact ⟨rfl, H3.out.1, H3.out.2⟩
end Go.Proofs.YtologchdnjnadaaDoor
/-
  The document's hex and name.
-/
namespace Go.Proofs.YtologchdnjnadaaDoor
open Go.RowKit
set_option linter.unusedSimpArgs false
set_option linter.unusedVariables false

theorem rdname_any (op : Nat) (h : 1 ≤ op) (h4 : op ≤ 4) (w : World) :
    Calls Tryd.prog 19 #[.int .i64 (op : Int)] w fun e w' => e = .returned (.string (nmS op)) ∧ w' = w := by
  obtain rfl | rfl | rfl | rfl : op = 1 ∨ op = 2 ∨ op = 3 ∨ op = 4 := by omega
  all_goals
    go_enter Tryd.func19, Tryd.ntmps19
    go_wp2
    go_ret
    exact ⟨rfl, rfl⟩
theorem and15N (N : Nat) (h : N < 4294967296) : bits .and .u32 (N : Int) 15 = ((N % 16 : Nat) : Int) := by
  obtain ⟨x, hx⟩ : ∃ x : BitVec 32, uI x = (N : Int) := ⟨BitVec.ofNat 32 N, uI_of N h⟩
  have e15 : uI (15#32) = (15 : Int) := by rw [uI_eq]; rfl
  rw [← hx, ← e15, and32, uI_eq]
  have hxn : x.toNat = N := by
    rw [uI_eq] at hx; omega
  rw [BitVec.toNat_and, hxn]
  have : N &&& (15#32).toNat = N % 16 := by
    show N &&& 15 = N % 16
    exact Nat.and_two_pow_sub_one_eq_mod N 4
  rw [this]
def iI (c : Nat) : Int := 4 * (c : Int) - 4
/-- Digits as numbers. -/
def hexB (x c : Nat) : List Nat := (hexN x c).map UInt8.toNat
theorem bsA_hex (x c : Nat) : bsA (hexB x c) = ⟨(hexN x c).toArray⟩ := by
  unfold bsA hexB
  rw [List.map_map]
  have : (hexN x c).map (UInt8.ofNat ∘ UInt8.toNat) = hexN x c := by
    conv => rhs; rw [← List.map_id (hexN x c)]
    apply List.map_congr_left
    intro a _
    simp
  rw [this]
theorem hexB_lt (x c : Nat) : ∀ b ∈ hexB x c, b < 256 := by
  intro b hb
  obtain ⟨a, -, rfl⟩ := List.mem_map.1 hb
  exact a.toNat_lt
set_option maxRecDepth 20000 in
set_option maxHeartbeats 4000000 in
theorem rdhex_any (x : BitVec 32) (w : World) :
    Calls Tryd.prog 18 #[.int .u32 (uI x)] w fun e w' => e = .returned (.string ⟨(hexL x).toArray⟩) ∧ Below w.heap.size w w' := by
  obtain ⟨i0, hi, hz0, hz1, hz2⟩ := info13 Tryd.infoB13
  have HS0 : Hid (w.ownsRow w.heap.size 5 1 (.slice none 0 0) ([] : List Nat).length (([] : List Nat).map cB) ∧ Below w.heap.size w w) := hid13 ⟨World.ownsRow_nil _ _ _ _, Below.refl _ _⟩
  go_enter Tryd.func18, Tryd.ntmps18
  go_wp2
  go_loopg [3, 4] 8 (fun g x3 x4 wr => ∃ (D : List Nat), x4 = .int .i64 (iI g) ∧ Hid (wr.ownsRow w.heap.size 5 1 x3 D.length (D.map cB) ∧ Below w.heap.size w wr ∧ D ++ hexB x.toNat g = hexB x.toNat 8 ∧ g ≤ 8 ∧ D.length ≤ 8))
  case atStart => exact ⟨[], rfl, hid13 ⟨HS0.out.1, HS0.out.2, rfl, Nat.le_refl _, by simp⟩⟩
  case round =>
    clear HS0
    obtain ⟨D, rfl, HS⟩ := hrel
    obtain ⟨xo, xc, hxf⟩ := own_form HS.out.1
    subst hxf
    cases gk with
    | zero =>
      have k0 : iI 0 = -4 := rfl
      rw [k0]
      have hD : D = hexB x.toNat 8 := by have := HS.out.2.2.1; rw [show hexB x.toNat 0 = [] from rfl, List.append_nil] at this; exact this
      have hc := conv13 (own_rwx HS.out.1) (by rw [hD]; exact hexB_lt _ _)
      rw [show bsA D = ⟨(hexL x).toArray⟩ by rw [hD]; exact bsA_hex _ _] at hc
      clear k0 hD
      go_wp2
      go_ret
      exact ⟨rfl, HS.out.2.1⟩
    | succ c =>
      have k1 : iI (c + 1) = 4 * (c : Int) := by unfold iI; omega
      rw [k1]
      have hc8 : c < 8 := by have := HS.out.2.2.2.1; omega
      obtain ⟨N, hN⟩ : ∃ N, N = x.toNat / 16 ^ c := ⟨_, rfl⟩
      have hs : uI x / 2 ^ (4 * c) = (N : Int) := by rw [Nat.mul_comm 4 c, shr15, hN]
      have hs' : uI x / 2 ^ min (4 * c) 32 = (N : Int) := by rw [Nat.min_eq_left (by omega)]; exact hs
      obtain ⟨d, hd⟩ : ∃ d, d = N % 16 := ⟨_, rfl⟩
      have hNb : N < 4294967296 := by rw [hN]; exact Nat.lt_of_le_of_lt (Nat.div_le_self _ _) x.isLt
      have hand : bits .and .u32 (N : Int) 15 = (d : Int) := by rw [hd]; exact and15N N hNb
      have hd16 : d < 16 := by omega
      have hdi : (d : Int) < 16 := by omega
      have hat := l16_at d (by show d < 16; exact hd16)
      have m3 : IntKind.i64.wrap (4 * (c : Int) - 4) = iI c := by rw [IntKind.wrap_i64]; unfold iI; omega
      have HD : Hid (hexB x.toNat (c + 1) = (dg16 d).toNat :: hexB x.toNat c) := hid13 (by rw [hd, hN]; rfl)
      have q9 := bl1 wr (.cells #[.int .u8 ((dg16 d).toNat : Int)] 5)
      have HO := hid13 (own_b13 q9 HS.out.1)
      have hb9 := keepb q9 HS.out.2.1
      have HSZ9 : Hid (w.heap.size ≤ (wr.alloc (.cells #[.int .u8 ((dg16 d).toNat : Int)] 5)).heap.size) := hid13 hb9.size
      have HB9 := hid13 hb9
      have H47 : Hid (D.length + 1 ≤ maxLen ∧ (D.length + 1) * 1 ≤ 140737488355328) := hid13 ⟨by unfold maxLen; have := HS.out.2.2.2.2; omega, by have := HS.out.2.2.2.2; omega⟩
      clear k1 hN hd hNb hc8 q9 hb9
      go_wp2_with (at_builtin; apply stopHere9)
      refine (show wpList _ _ _ _ _ _ from ?_)
      refine wpList_append_lies _ rfl _ _ 22 rfl w.heap.size 5 i0 (.int .u8 0) 1 1 Tryd.underlying22 hi hz0 hz1 hz2 rfl (by decide) _ _ _ rfl HO.out ⟨wr.heap.size, 0, none⟩ 1 1 [.int .u8 ((dg16 d).toNat : Int)] rfl rfl (news13 (by simp [go_sem])) (by intro u hu; simp at hu; subst hu; rfl) (by decide) H47.out.1 H47.out.2 HSZ9.out _ rfl ?_
      intro g4 cap4 w4 hown4 hgrow hat4 hlt4
      have HZ : Hid (w4.ownsRow w.heap.size 5 1 (.slice (some ⟨g4, 0, none⟩) (D.length + 1) cap4) (D ++ [(dg16 d).toNat]).length ((D ++ [(dg16 d).toNat]).map cB) ∧ Below w.heap.size w w4) := hid13 ⟨by rw [List.length_append, List.map_append]; exact hown4, HB9.out.grown hgrow HSZ9.out (fun z e => (HO.out.lt z e).1)⟩
      clear hown4 hgrow hat4 hlt4 HO H47 HSZ9 HB9 hat
      go_wp2
      go_roundg c
      case measure => omega
      case rel => exact ⟨D ++ [(dg16 d).toNat], rfl, hid13 ⟨HZ.out.1, HZ.out.2, by have := HS.out.2.2.1; rw [HD.out] at this; rw [← this]; simp, by have := HS.out.2.2.2.1; omega, by have h1 := HS.out.2.2.1; have h2 := congrArg List.length h1; simp only [List.length_append, hexB, List.length_map, hexN_len] at h2; rw [List.length_append, List.length_singleton]; omega⟩⟩
end Go.Proofs.YtologchdnjnadaaDoor
/-
  What the document's MapWords, isMap, Check and Size of chapter 14 do.
-/
namespace Go.Proofs.YtologchdnjnadaaDoor
open Go.RowKit
set_option linter.unusedSimpArgs false
set_option linter.unusedVariables false

theorem rmapWords_any (n : Nat) (h : n ≤ 24) (w : World) :
    Calls Tryd.prog 29 #[.int .i64 (n : Int)] w fun e w' => e = .returned (.int .i64 (mwN n : Int)) ∧ w' = w := by
  by_cases c : n < 5
  · have c1 : (n : Int) < 5 := by omega
    have e : Hid (mwN n = 1) := by show _ = _; unfold mwN; rw [if_pos c]
    clear c h
    go_enter Tryd.func29, Tryd.ntmps29
    go_wp2
    go_ret
    exact ⟨by rw [e.out]; rfl, rfl⟩
  · have c1 : ¬ (n : Int) < 5 := by omega
    obtain ⟨j, hj⟩ : ∃ j, j = n - 5 := ⟨_, rfl⟩
    have hs := sh64 j (by omega)
    obtain ⟨P, hP⟩ : ∃ P : Nat, P = 2 ^ j := ⟨_, rfl⟩
    rw [← hP] at hs
    have e : Hid (mwN n = P) := by show _ = _; unfold mwN; rw [if_neg c, hP, hj]
    have hw : IntKind.i64.wrap ((n : Int) - 5) = (j : Int) := by rw [IntKind.wrap_i64]; omega
    clear c h hP hj
    go_enter Tryd.func29, Tryd.ntmps29
    go_wp2
    go_ret
    exact ⟨by rw [e.out]; rfl, rfl⟩
set_option maxRecDepth 100000 in
set_option maxHeartbeats 4000000 in
theorem risMap_any (v : Value) (m : List (BitVec 32)) (n : Nat) (w : World) (hv : RwX cU w v m) (h : n ≤ 24) :
    Calls Tryd.prog 30 #[v, .int .i64 (n : Int)] w fun e w' => e = .returned (.bool (isMapB m n)) ∧ Below w.heap.size w w' := by
  have KM := fun w => rmapWords_any n h w
  obtain ⟨ao, c, rfl, hc, hr⟩ := hv
  have hs1 := sh64u n h
  by_cases h1 : m.length = mwN n
  · obtain ⟨x, t, rfl⟩ : ∃ x t, m = x :: t := by
      cases m with
      | nil => have := mwN_lo n; simp at h1; omega
      | cons x t => exact ⟨x, t, rfl⟩
    obtain ⟨b, off, rfl, hcell⟩ : ∃ b off, ao = some ⟨b, off, none⟩ ∧ ∀ j y, (x :: t)[j]? = some y → w.cell? ⟨b, off + j, none⟩ = some (cU y) := by
      rcases hr with h | h
      · cases h
      · exact h
    have c0 : w.cell? ⟨b, off, none⟩ = some (.int .u32 (uI x)) := hcell 0 x rfl
    have HE : Hid (isMapB (x :: t) n = topB x (2 ^ n)) := by show _ = _; rw [isMapB_cons, decide_eq_true h1, Bool.true_and]
    obtain ⟨L, hL⟩ : ∃ L, L = (x :: t).length := ⟨_, rfl⟩
    rw [← hL] at h1 ⊢
    have hL0 : (0 : Int) < (L : Int) := by rw [hL]; simp
    rw [← h1] at KM
    obtain ⟨P, hP⟩ : ∃ P : Nat, P = 2 ^ n := ⟨_, rfl⟩
    rw [← hP] at hs1 HE
    have hs2 := sh32u x P
    have hh := hi32 x
    have HP : Hid (5 ≤ n → x <<< P = 0#32) := by
      intro h5
      refine BitVec.shiftLeft_eq_zero ?_
      rw [hP]
      have := Nat.pow_le_pow_right (n := 2) (by decide) h5
      exact this
    clear hcell hr h1 hL hc h hP
    unfold topB at HE
    cases g : x.getLsbD 31 with
    | true =>
      rw [g] at hh HE
      replace HE : Hid (isMapB (x :: t) n = (x <<< P == 0#32)) := HE
      simp only [if_true] at hh
      clear g
      by_cases h5 : 5 ≤ n
      · have HE2 : Hid (isMapB (x :: t) n = true) := by show _ = _; rw [HE.out, HP.out h5]; rfl
        have h5' : (5 : Int) ≤ (n : Int) := by omega
        clear h5 HE HP
        go_enter Tryd.func30, Tryd.ntmps30
        go_wp2_with (go_at_call 29; refine (KM _).mono ?_; rintro e w1 ⟨rfl, hw1⟩; replace hw1 := hw1.symm; subst hw1)
        go_quiet (fail)
        have HB : Hid (Below w.heap.size w (w.drewN nq)) := below_drewN (Below.refl _ _) nq
        go_wp2
        go_ret
        exact ⟨by rw [HE2.out]; rfl, HB.out⟩
      · have h5' : decide ((5 : Int) ≤ (n : Int)) = false := decide_eq_false (by omega)
        clear h5 HP
        by_cases hz : x <<< P = 0#32
        · have HE2 : Hid (isMapB (x :: t) n = true) := by show _ = _; rw [HE.out, hz]; rfl
          rw [hz, uI_zero] at hs2
          clear hz HE
          go_enter Tryd.func30, Tryd.ntmps30
          go_wp2_with (go_at_call 29; refine (KM _).mono ?_; rintro e w1 ⟨rfl, hw1⟩; replace hw1 := hw1.symm; subst hw1)
          go_quiet (fail)
          have HB : Hid (Below w.heap.size w (w.drewN nq)) := below_drewN (Below.refl _ _) nq
          go_wp2
          go_ret
          exact ⟨by rw [HE2.out]; rfl, HB.out⟩
        · have HE2 : Hid (isMapB (x :: t) n = false) := by show _ = _; rw [HE.out]; simpa using hz
          obtain ⟨Y, hY⟩ : ∃ Y, Y = uI (x <<< P) := ⟨_, rfl⟩
          have hY0 : (Y == 0) = false := by
            rw [hY]; simp only [beq_eq_false_iff_ne]
            exact fun e => hz ((uI_is0 _).1 e)
          rw [← hY] at hs2
          clear hz hY HE
          go_enter Tryd.func30, Tryd.ntmps30
          go_wp2_with (go_at_call 29; refine (KM _).mono ?_; rintro e w1 ⟨rfl, hw1⟩; replace hw1 := hw1.symm; subst hw1)
          go_quiet (fail)
          have HB : Hid (Below w.heap.size w (w.drewN nq)) := below_drewN (Below.refl _ _) nq
          go_wp2
          go_ret
          exact ⟨by rw [HE2.out]; rfl, HB.out⟩
    | false =>
      rw [g] at hh HE
      replace hh : uI x / 2147483648 = 0 := hh
      replace HE : Hid (isMapB (x :: t) n = false) := HE
      clear hs2 hs1 g HP
      go_enter Tryd.func30, Tryd.ntmps30
      go_wp2_with (go_at_call 29; refine (KM _).mono ?_; rintro e w1 ⟨rfl, hw1⟩; replace hw1 := hw1.symm; subst hw1)
      go_ret
      exact ⟨by rw [HE.out]; rfl, Below.refl _ _⟩
  · have HE : Hid (isMapB m n = false) := by show _ = _; unfold isMapB; rw [decide_eq_false h1]; rfl
    obtain ⟨L, hL⟩ : ∃ L, L = mwN n := ⟨_, rfl⟩
    rw [← hL] at KM h1
    have h1' : (((m.length : Nat) : Int) != (L : Int)) = true := by simp; omega
    clear hs1 hr hL h1
    go_enter Tryd.func30, Tryd.ntmps30
    go_wp2_with (go_at_call 29; refine (KM _).mono ?_; rintro e w1 ⟨rfl, hw1⟩; replace hw1 := hw1.symm; subst hw1)
    go_ret
    exact ⟨by rw [HE.out]; rfl, Below.refl _ _⟩
set_option maxRecDepth 100000 in
set_option maxHeartbeats 8000000 in
theorem rcheck14 (op n : Int) (v : Value) (m : List (BitVec 32)) (w : World) (hv : RwX cU w v m) :
    Calls Tryd.prog 53 #[.agg #[.int .i64 op, .int .i64 n, v]] w fun e w' => e = .returned (.int .i64 (chkE op n m)) ∧ Below w.heap.size w w' := by
  obtain ⟨ao, c, hvf, -⟩ := id hv
  have q1 := bl1 w (.cells #[.int .i64 op, .int .i64 n, v] 45)
  have a1 := ati_new w op n v 45
  have HV := hid13 (hv.below q1)
  obtain ⟨w1, hw1⟩ : ∃ w1, w1 = w.alloc (.cells #[.int .i64 op, .int .i64 n, v] 45) := ⟨_, rfl⟩
  rw [← hw1] at q1 HV
  have HB := hid13 q1
  subst hvf
  clear q1 hv a1
  cases ho : isOp op with
  | false =>
    have HE := hid13 (chk_no (n := n) (m := m) ho)
    obtain ⟨h1, h2, h3, h4⟩ := isOp_none ho
    clear ho
    go_enter Tryd.func53, Tryd.ntmps53
    go_wp2
    go_ret
    exact ⟨by rw [HE.out]; rfl, by rw [← hw1]; exact HB.out⟩
  | true =>
    cases ht : (decide (kLo op ≤ n) && decide (n ≤ kHi op)) with
    | false =>
      have HE := hid13 (chk_arg (m := m) ho ht)
      rcases isOp_cases ho with rfl | rfl | rfl | rfl
      · have hb : n < 1 ∨ 24 < n := by unfold kLo kHi at ht; simp at ht; omega
        clear ht ho
        rcases hb with hb | hb
        · go_enter Tryd.func53, Tryd.ntmps53
          go_wp2
          go_ret
          exact ⟨by rw [HE.out]; rfl, by rw [← hw1]; exact HB.out⟩
        · have hb2 : ¬ n < 1 := by omega
          go_enter Tryd.func53, Tryd.ntmps53
          go_wp2
          go_ret
          exact ⟨by rw [HE.out]; rfl, by rw [← hw1]; exact HB.out⟩
      · have hb : n < 1 ∨ 24 < n := by unfold kLo kHi at ht; simp at ht; omega
        clear ht ho
        rcases hb with hb | hb
        · go_enter Tryd.func53, Tryd.ntmps53
          go_wp2
          go_ret
          exact ⟨by rw [HE.out]; rfl, by rw [← hw1]; exact HB.out⟩
        · have hb2 : ¬ n < 1 := by omega
          go_enter Tryd.func53, Tryd.ntmps53
          go_wp2
          go_ret
          exact ⟨by rw [HE.out]; rfl, by rw [← hw1]; exact HB.out⟩
      · have hb : n < 1 ∨ 16777216 ≤ n := by unfold kLo kHi at ht; simp at ht; omega
        clear ht ho
        rcases hb with hb | hb
        · go_enter Tryd.func53, Tryd.ntmps53
          go_wp2
          go_ret
          exact ⟨by rw [HE.out]; rfl, by rw [← hw1]; exact HB.out⟩
        · have hb2 : ¬ n < 1 := by omega
          go_enter Tryd.func53, Tryd.ntmps53
          go_wp2
          go_ret
          exact ⟨by rw [HE.out]; rfl, by rw [← hw1]; exact HB.out⟩
      · have hb : n < 0 ∨ 65535 < n := by unfold kLo kHi at ht; simp at ht; omega
        clear ht ho
        rcases hb with hb | hb
        · go_enter Tryd.func53, Tryd.ntmps53
          go_wp2
          go_ret
          exact ⟨by rw [HE.out]; rfl, by rw [← hw1]; exact HB.out⟩
        · have hb2 : ¬ n < 0 := by omega
          go_enter Tryd.func53, Tryd.ntmps53
          go_wp2
          go_ret
          exact ⟨by rw [HE.out]; rfl, by rw [← hw1]; exact HB.out⟩
    | true =>
      by_cases h2 : op = 2
      · subst h2
        have hE := chk_map (m := m) ho ht rfl
        have hb : 1 ≤ n ∧ n ≤ 24 := by unfold kLo kHi at ht; simpa using ht
        obtain ⟨k, rfl⟩ : ∃ k : Nat, n = (k : Int) := ⟨n.toNat, by omega⟩
        rw [Int.toNat_natCast] at hE
        have HE := hid13 hE
        have K1 := risMap_any _ m k w1 HV.out (by omega)
        have b1 : ¬ (k : Int) < 1 := by omega
        have b2 : ¬ (24 : Int) < (k : Int) := by omega
        clear ht ho hE hb
        go_enter Tryd.func53, Tryd.ntmps53
        go_wp2_with fail
        rw [← hw1]
        refine K1.mono ?_
        rintro e w2 ⟨rfl, hb2⟩
        have HB2 := hid13 (keepb hb2 HB.out)
        have k2 : w2.cell? ⟨w.heap.size, 0, none⟩ = some (.int .i64 2) := keepc hb2 (by rw [hw1]; simp [go_sem])
        clear hb2 hw1 K1
        generalize isMapB m k = z at *
        cases z with
        | true =>
          replace HE : Hid (chkE 2 (k : Int) m = 0) := HE
          go_wp2
          go_ret
          exact ⟨by rw [HE.out]; rfl, HB2.out⟩
        | false =>
          replace HE : Hid (chkE 2 (k : Int) m = 25) := HE
          go_wp2
          go_ret
          exact ⟨by rw [HE.out]; rfl, HB2.out⟩
      · have hE := chk_plain (m := m) ho ht h2
        by_cases hm : m = []
        · rw [if_pos hm] at hE
          have HE := hid13 hE
          have hl : m.length = 0 := by rw [hm]; rfl
          rw [hl] at hw1 ⊢
          rcases isOp_cases ho with rfl | rfl | rfl | rfl
          · have hb : 1 ≤ n ∧ n ≤ 24 := by unfold kLo kHi at ht; simpa using ht
            have b1 : ¬ n < 1 := by omega
            have b2 : ¬ 24 < n := by omega
            clear ht ho hb hm hl hE h2
            go_enter Tryd.func53, Tryd.ntmps53
            go_wp2
            go_ret
            exact ⟨by rw [HE.out]; rfl, by rw [← hw1]; exact HB.out⟩
          · exact absurd rfl h2
          · have hb : 1 ≤ n ∧ n ≤ 16777215 := by unfold kLo kHi at ht; simpa using ht
            have b1 : ¬ n < 1 := by omega
            have b2 : ¬ 16777216 ≤ n := by omega
            clear ht ho hb hm hl hE h2
            go_enter Tryd.func53, Tryd.ntmps53
            go_wp2
            go_ret
            exact ⟨by rw [HE.out]; rfl, by rw [← hw1]; exact HB.out⟩
          · have hb : 0 ≤ n ∧ n ≤ 65535 := by unfold kLo kHi at ht; simpa using ht
            have b1 : ¬ n < 0 := by omega
            have b2 : ¬ 65535 < n := by omega
            clear ht ho hb hm hl hE h2
            go_enter Tryd.func53, Tryd.ntmps53
            go_wp2
            go_ret
            exact ⟨by rw [HE.out]; rfl, by rw [← hw1]; exact HB.out⟩
        · rw [if_neg hm] at hE
          have HE := hid13 hE
          have hl : (0 : Int) < (m.length : Int) := by have := List.length_pos_iff.2 hm; omega
          rcases isOp_cases ho with rfl | rfl | rfl | rfl
          · have hb : 1 ≤ n ∧ n ≤ 24 := by unfold kLo kHi at ht; simpa using ht
            have b1 : ¬ n < 1 := by omega
            have b2 : ¬ 24 < n := by omega
            clear ht ho hb hm hE h2
            go_enter Tryd.func53, Tryd.ntmps53
            go_wp2
            go_ret
            exact ⟨by rw [HE.out]; rfl, by rw [← hw1]; exact HB.out⟩
          · exact absurd rfl h2
          · have hb : 1 ≤ n ∧ n ≤ 16777215 := by unfold kLo kHi at ht; simpa using ht
            have b1 : ¬ n < 1 := by omega
            have b2 : ¬ 16777216 ≤ n := by omega
            clear ht ho hb hm hE h2
            go_enter Tryd.func53, Tryd.ntmps53
            go_wp2
            go_ret
            exact ⟨by rw [HE.out]; rfl, by rw [← hw1]; exact HB.out⟩
          · have hb : 0 ≤ n ∧ n ≤ 65535 := by unfold kLo kHi at ht; simpa using ht
            have b1 : ¬ n < 0 := by omega
            have b2 : ¬ 65535 < n := by omega
            clear ht ho hb hm hE h2
            go_enter Tryd.func53, Tryd.ntmps53
            go_wp2
            go_ret
            exact ⟨by rw [HE.out]; rfl, by rw [← hw1]; exact HB.out⟩
end Go.Proofs.YtologchdnjnadaaDoor
