/-
  Part 13 of the proof: 6 texts, one behind the other.
-/
import Derived.Test.YtpiicdpipjjenaaGreatDoorPart10
import Derived.Test.YtpiicdpipjjenaaGreatDoorPart12
import Derived.Test.YtpiicdpipjjenaaGreatDoorPart5
import Derived.Lib.AppendIntMem
namespace Go.Proofs.YtpiicdpipjjenaaGreatDoor
open Go.RowKit
set_option linter.unusedSimpArgs false
set_option linter.unusedVariables false

theorem ispow_16 (w : World) : Calls Tryz.prog 109 #[.int .i64 16] w fun e w' => e = .returned (.bool true) ∧ w' = w := by
  go_enter Tryz.func109, Tryz.ntmps109
  go_wp2
  go_ret
  exact ⟨rfl, rfl⟩
theorem tz64_16 (w : World) (hT : Tab w) : Calls Tryz.prog 123 #[.int .u64 16] w fun e w' => e = .returned (.int .i64 4) ∧ w' = w := by
  have h := tz_any 16 w (by decide) (by decide) (by decide) hT
  rw [show Lib.ctz 64 (16 : Int).toNat = 4 by decide +kernel] at h
  exact h
theorem tzs_16 (w : World) (hT : Tab w) : Calls Tryz.prog 110 #[.int .u64 16] w fun e w' => e = .returned (.int .i64 4) ∧ w' = w := by
  go_enter Tryz.func110, Tryz.ntmps110
  go_wp2_with fail
  refine (tz64_16 _ hT).mono ?_
  rintro e w' ⟨rfl, rfl⟩
  go_wp2
  go_ret
  exact ⟨rfl, rfl⟩

theorem dig36_tab (d : Nat) (h : d < 16) : ((⟨#[48, 49, 50, 51, 52, 53, 54, 55, 56, 57, 97, 98, 99, 100, 101, 102, 103, 104, 105, 106, 107, 108, 109, 110, 111, 112, 113, 114, 115, 116, 117, 118, 119, 120, 121, 122]⟩ : ByteArray)[d]'(Nat.lt_of_lt_of_le h (by decide))).toNat = (hexD d).toNat := by
  have all : ∀ j : Fin 16, ((⟨#[48, 49, 50, 51, 52, 53, 54, 55, 56, 57, 97, 98, 99, 100, 101, 102, 103, 104, 105, 106, 107, 108, 109, 110, 111, 112, 113, 114, 115, 116, 117, 118, 119, 120, 121, 122]⟩ : ByteArray)[j.val]'(Nat.lt_of_lt_of_le j.isLt (by decide))).toNat = (hexD j.val).toNat := by decide +kernel
  exact all ⟨d, h⟩
def zeros65 : Array Value := #[.int .u8 0, .int .u8 0, .int .u8 0, .int .u8 0, .int .u8 0, .int .u8 0, .int .u8 0, .int .u8 0, .int .u8 0, .int .u8 0, .int .u8 0, .int .u8 0, .int .u8 0, .int .u8 0, .int .u8 0, .int .u8 0, .int .u8 0, .int .u8 0, .int .u8 0, .int .u8 0, .int .u8 0, .int .u8 0, .int .u8 0, .int .u8 0, .int .u8 0, .int .u8 0, .int .u8 0, .int .u8 0, .int .u8 0, .int .u8 0, .int .u8 0, .int .u8 0, .int .u8 0, .int .u8 0, .int .u8 0, .int .u8 0, .int .u8 0, .int .u8 0, .int .u8 0, .int .u8 0, .int .u8 0, .int .u8 0, .int .u8 0, .int .u8 0, .int .u8 0, .int .u8 0, .int .u8 0, .int .u8 0, .int .u8 0, .int .u8 0, .int .u8 0, .int .u8 0, .int .u8 0, .int .u8 0, .int .u8 0, .int .u8 0, .int .u8 0, .int .u8 0, .int .u8 0, .int .u8 0, .int .u8 0, .int .u8 0, .int .u8 0, .int .u8 0, .int .u8 0]
theorem zeros65_rep : zeros65 = Array.replicate 65 (.int .u8 0) := by rfl
theorem zeros65_at (i : Nat) (h : i < 65) : zeros65[i]? = some (.int .u8 0) := by
  rw [zeros65_rep, Array.getElem?_replicate, if_pos h]
def Buf (w : World) (C : Nat) (t : List UInt8) : Prop :=
  (∀ j, j < 65 → (∃ c : Int, w.cell? ⟨C, j, none⟩ = some (.int .u8 c)) ∧ w.frozen? ⟨C, j, none⟩ = false) ∧ t.length ≤ 65 ∧ ∀ j, j < t.length → w.cell? ⟨C, 65 - t.length + j, none⟩ = some (.int .u8 (t.getD j 0).toNat)
theorem Buf.new (w : World) (T : TypeId) : Buf (w.alloc (.cells zeros65 T)) w.heap.size [] := by
  refine ⟨fun j hj => ⟨⟨0, ?_⟩, World.frozen?_alloc_new _ _ _ _⟩, by decide, fun j hj => by cases hj⟩
  rw [World.cell?_alloc_new, zeros65_at _ hj]
theorem Buf.drew {w : World} {C : Nat} {t : List UInt8} (h : Buf w C t) : Buf w.drew C t := h
theorem Buf.store {w : World} {C m : Nat} {t : List UInt8} (h : Buf w C t) (d : UInt8) (z : Int) (hz : z = (d.toNat : Int)) (hm : m + 1 + t.length = 65) : Buf (w.setCell ⟨C, m, none⟩ (.int .u8 z)) C (d :: t) := by
  obtain ⟨h1, h2, h3⟩ := h
  subst hz
  refine ⟨fun j hj => ?_, by simp; omega, fun j hj => ?_⟩
  · obtain ⟨⟨c, q1⟩, q2⟩ := h1 j hj
    obtain ⟨⟨c', r1⟩, r2⟩ := h1 m (by omega)
    by_cases e : j = m
    · subst e
      refine ⟨⟨(d.toNat : Int), ?_⟩, ?_⟩
      · simp [go_sem, *]
      · simp [go_sem, *]
    · have e' : ¬ m = j := fun q => e q.symm
      refine ⟨⟨c, ?_⟩, ?_⟩
      · simp [go_sem, *]
      · simp [go_sem, *]
  · obtain ⟨⟨c', r1⟩, r2⟩ := h1 m (by omega)
    have el : (d :: t).length = t.length + 1 := rfl
    rw [el] at hj ⊢
    cases j with
    | zero =>
      have e : 65 - (t.length + 1) + 0 = m := by omega
      rw [e]
      simp [go_sem, *]
    | succ j =>
      have e : 65 - (t.length + 1) + (j + 1) = 65 - t.length + j := by omega
      have ne : ¬ 65 - t.length + j = m := by omega
      have ne' : ¬ m = 65 - t.length + j := by omega
      have h7 := h3 j (by omega)
      rw [e]
      have hd : (d :: t).getD (j + 1) 0 = t.getD j 0 := by simp [List.getD]
      rw [hd]
      rw [set_other ne', h7]

theorem Buf.src {w : World} {C k : Nat} {l : List UInt8} (h : Buf w C l) (hk : k + l.length = 65) : ∀ j u, (Lib.byteCells l)[j]? = some u → w.cell? ((⟨C, k, none⟩ : Addr).add j) = some u := by
  intro j u hj
  have hlt : j < l.length := by
    apply Classical.byContradiction
    intro c
    have : (Lib.byteCells l)[j]? = none := by simp [Lib.byteCells]; omega
    rw [this] at hj; cases hj
  have h3 := h.2.2 j hlt
  rw [show 65 - l.length + j = k + j by omega] at h3
  have ea : (⟨C, k, none⟩ : Addr).add j = ⟨C, k + j, none⟩ := by cases j <;> simp [Addr.add]
  rw [ea, h3, ← hj]
  simp [Lib.byteCells, List.getD, hlt]
theorem one_bytes (l : List UInt8) : ∀ u ∈ Lib.byteCells l, u.oneCell' = true := by
  intro u hu
  unfold Lib.byteCells at hu
  obtain ⟨b, -, rfl⟩ := List.mem_map.mp hu
  rfl
set_option maxHeartbeats 4000000 in
set_option maxRecDepth 20000 in
theorem fbits_16 (B n v : Nat) (sv : Value) (xs : List Value) (w : World) (hv : v < 65536) (hown : w.ownsRow B 5 1 sv n xs) (hBw : B ≤ w.heap.size) (hlim : n + 20 ≤ 140737488355328) (hT : Tab w) :
    Calls Tryz.prog 93 #[sv, .int .u64 v, .int .i64 16, .bool false, .bool true] w fun e w' => ∃ v', e = .returned (.tuple #[v', .string ⟨#[]⟩]) ∧ w'.ownsRow B 5 1 v' (n + (hexL v).length) (xs ++ Lib.byteCells (hexL v)) ∧ Below B w w' := by
  obtain ⟨i0, hi, hz0, hz1, hz2⟩ := info_parts Tryz.infoB8
  have hT1 : ∀ o, Tab (w.alloc o) := fun o => hT.keep (bl1 w o)
  clear hT
  go_enter Tryz.func93, Tryz.ntmps93
  go_wp2_with fail
  refine (ispow_16 _).mono ?_
  rintro e w' ⟨rfl, rfl⟩
  go_wp2_with fail
  refine (tzs_16 _ (hT1 _)).mono ?_
  rintro e w' ⟨rfl, rfl⟩
  clear hT1
  go_wp2
  have hB0 : Below w.heap.size w (w.alloc (.cells zeros65 145)) := bl1 _ _
  have hU0 := Buf.new w 145
  go_loopw [1, 13] (fun a b wr => ∃ (f m : Nat) (t : List UInt8), a = .int .u64 m ∧ b = .int .i64 (65 - (t.length : Int)) ∧ m < 65536 ∧ t.length + f ≤ 20 ∧ 1 ≤ f ∧ Hid (m < 16 ^ f) ∧ Hid (¬ m = 0 ∨ t = []) ∧ Hid (hexF f m t = hexL v) ∧ Buf wr w.heap.size t ∧ Below w.heap.size w wr) (fun a _ _ => (intOf a).toNat)
  case atStart => exact ⟨20, v, [], rfl, rfl, hv, by decide, by decide, by show _ < _; omega, Or.inr rfl, rfl, hU0, hB0⟩
  case round =>
    obtain ⟨f, m, t, rfl, rfl, hm, hf, hf1, HM, HZ, HX, hU, hB⟩ := hrel
    obtain ⟨g, rfl⟩ : ∃ g, f = g + 1 := ⟨f - 1, by omega⟩
    obtain ⟨k, hkn⟩ : ∃ k : Nat, k + 1 + t.length = 65 := ⟨64 - t.length, by omega⟩
    have hk : 65 - (t.length : Int) - 1 = (k : Int) := by omega
    have hk1 : (k : Int) < 65 := by omega
    obtain ⟨⟨c, q1⟩, q2⟩ := hU.1 k (by omega)
    by_cases h16 : (16 : Int) ≤ (m : Int)
    · have h16' : m % 16 < 16 := Nat.mod_lt _ (by decide)
      have hand : bits .and .u64 (m : Int) 15 = ((m % 16 : Nat) : Int) := by
        have := bits_and_u64_nat m 15 (by omega) (by decide)
        rw [show ((15 : Nat) : Int) = 15 from rfl] at this
        rw [this]
        congr 1
        exact Nat.and_two_pow_sub_one_eq_mod _ 4
      have HDV : Hid (((m / 16 : Nat) : Int) = (m : Int) / 16) := by show _ = _; omega
      have HX2 : Hid (hexF g (m / 16) (hexD (m % 16) :: t) = hexL v) := by
        show _ = _
        rw [← HX.out, hexF_go g m t HZ.out]
      have HM2 : Hid (m / 16 < 16 ^ g) := by
        show _ < _
        have := HM.out
        rw [Nat.pow_succ] at this
        omega
      have HZ2 : Hid (¬ m / 16 = 0 ∨ hexD (m % 16) :: t = []) := by
        left; omega
      have hg1 : 1 ≤ g := by
        have := HM2.out
        rcases g with _ | g
        · simp at this; omega
        · omega
      have HU2 := fun (z : Int) (hz : z = ((hexD (m % 16)).toNat : Int)) => hU.store (hexD (m % 16)) z hz hkn
      have HUH : Hid (∀ (z : Int) (hz : z = ((hexD (m % 16)).toNat : Int)), Buf (wr.setCell ⟨w.heap.size, k, none⟩ (.int .u8 z)) w.heap.size (hexD (m % 16) :: t)) := HU2
      have hd' : ((m % 16 : Nat) : Int) < 36 := by omega
      have HT : Hid (((⟨#[48, 49, 50, 51, 52, 53, 54, 55, 56, 57, 97, 98, 99, 100, 101, 102, 103, 104, 105, 106, 107, 108, 109, 110, 111, 112, 113, 114, 115, 116, 117, 118, 119, 120, 121, 122]⟩ : ByteArray)[m % 16]'(Nat.lt_of_lt_of_le h16' (by decide))).toNat = (hexD (m % 16)).toNat) := dig36_tab (m % 16) h16'
      clear HU2 hU HX HM HZ hB0 hU0 hkn hown hlim hi hz0 hz1 hz2 hBw hv
      generalize m % 16 = d at *
      go_wp2
      go_roundw
      case rel =>
        refine ⟨g, m / 16, hexD d :: t, by rw [HDV.out], by rw [show ((hexD d :: t).length : Int) = (t.length : Int) + 1 from by simp]; congr 1; omega, by omega, by simp; omega, hg1, HM2, HZ2, HX2, HUH.out _ (by rw [HT.out]), hB.setCell (Nat.le_refl _) _⟩
      case measure => simp [intOf]; omega
    · have hm' : m < 16 := by omega
      have HX2 : Hid (hexL v = hexD m :: t) := by
        show _ = _
        rw [← HX.out, hexF_last g m t HZ.out hm']
      have HT : Hid (((⟨#[48, 49, 50, 51, 52, 53, 54, 55, 56, 57, 97, 98, 99, 100, 101, 102, 103, 104, 105, 106, 107, 108, 109, 110, 111, 112, 113, 114, 115, 116, 117, 118, 119, 120, 121, 122]⟩ : ByteArray)[m]'(Nat.lt_of_lt_of_le hm' (by decide))).toNat = (hexD m).toNat) := dig36_tab m hm'
      have hd' : (m : Int) < 36 := by omega
      have HUH : Hid (∀ (z : Int) (hz : z = ((hexD m).toNat : Int)), Buf (wr.setCell ⟨w.heap.size, k, none⟩ (.int .u8 z)) w.heap.size (hexD m :: t)) := fun z hz => hU.store (hexD m) z hz hkn
      have HO : Hid (∀ z, (wr.setCell ⟨w.heap.size, k, none⟩ (.int .u8 z)).ownsRow B 5 1 sv n xs) := fun z => own_below (hB.setCell (Nat.le_refl _) _) hown
      have hk2 : (k : Int) ≤ 65 := by omega
      clear hU HX HM HZ hB0 hU0 hown
      have hlen : (hexD m :: t).length = 65 - k := by simp; omega
      have HLN : Hid ((Lib.byteCells (hexD m :: t)).length = (65 - k) * 1) := by show _ = _; simp [Lib.byteCells]; omega
      have HKL : Hid (k + (hexD m :: t).length = 65) := by show _ = _; simp; omega
      have h63 : n + (65 - k) ≤ maxLen := by unfold maxLen; omega
      have h47 : (n + (65 - k)) * 1 ≤ 140737488355328 := by omega
      have HL5 : Hid ((hexD m :: t).length = 65 - k) := hlen
      clear hlen
      go_wp2_with (at_builtin; refine wpList_append_own _ rfl _ _ 53 rfl B 5 i0 (.int .u8 0) 1 1 Tryz.underlying53 hi hz0 hz1 hz2 rfl (by decide) _ _ _ rfl (HO.out _) ⟨w.heap.size, k, none⟩ (65 - k) (65 - k) (Lib.byteCells (hexD m :: t)) rfl HLN.out (Buf.src (HUH.out _ (by rw [HT.out])) HKL.out) (one_bytes _) h63 h47 (by have := hB.size; simp; omega) ?_; intro v1 w1 hown1 hgrow1 _)
      have hb1 : Below B w w1 := ((hB.mono hBw).setCell hBw _).grown hgrow1 (by have := hB.size; simp; omega) (fun k hk => ((HO.out 0).lt k hk).1)
      have ho1 : w1.ownsRow B 5 1 v1 (n + (hexL v).length) (xs ++ Lib.byteCells (hexL v)) := by
        rw [HX2.out, HL5.out]; exact hown1
      go_wp2
      exact bodyPost_ret (v := .tuple #[v1, .string ⟨#[]⟩]) (by simp [results, Tryz.results93, go_sem]) rfl ⟨v1, rfl, ho1, hb1⟩
theorem iuint16 (B n u : Nat) (hu : u < 65536) (sv : Value) (xs : List Value) (w : World) (hown : w.ownsRow B 5 1 sv n xs) (hBw : B ≤ w.heap.size) (hlim : n + 20 ≤ 140737488355328) (hT : Tab w) :
    Calls Tryz.prog 104 #[sv, .int .u64 u, .int .i64 16] w fun e w' => ∃ v', e = .returned v' ∧ w'.ownsRow B 5 1 v' (n + (hexL u).length) (xs ++ Lib.byteCells (hexL u)) ∧ Below B w w' := by
  go_enter Tryz.func104, Tryz.ntmps104
  go_wp2_with fail
  refine (fbits_16 B n u sv xs w hu hown hBw hlim hT).mono ?_
  rintro e w1 ⟨v1, rfl, ho, hb⟩
  go_wp2
  go_ret
  exact ⟨v1, rfl, ho, hb⟩
theorem auint16 (B n u : Nat) (hu : u < 65536) (sv : Value) (xs : List Value) (w : World) (hown : w.ownsRow B 5 1 sv n xs) (hBw : B ≤ w.heap.size) (hlim : n + 20 ≤ 140737488355328) (hT : Tab w) :
    Calls Tryz.prog 86 #[sv, .int .u64 u, .int .i64 16] w fun e w' => ∃ v', e = .returned v' ∧ w'.ownsRow B 5 1 v' (n + (hexL u).length) (xs ++ Lib.byteCells (hexL u)) ∧ Below B w w' := by
  go_enter Tryz.func86, Tryz.ntmps86
  go_wp2_with fail
  refine (iuint16 B n u hu sv xs w hown hBw hlim hT).mono ?_
  rintro e w1 ⟨v1, rfl, ho, hb⟩
  go_wp2
  go_ret
  exact ⟨v1, rfl, ho, hb⟩
end Go.Proofs.YtpiicdpipjjenaaGreatDoor
namespace Go.Proofs.YtpiicdpipjjenaaGreatDoor
open Go.RowKit
set_option linter.unusedSimpArgs false
set_option linter.unusedVariables false

end Go.Proofs.YtpiicdpipjjenaaGreatDoor
namespace Go.Proofs.YtpiicdpipjjenaaGreatDoor
open Go.RowKit
set_option linter.unusedSimpArgs false
set_option linter.unusedVariables false

theorem At.grownBy {w w' : World} {B : Nat} {x : BitVec 128} {row : Option Nat} (h : At w B x) (hg : w.grownBy w' row) (hne : ¬ some B = row) : At w' B x := by
  obtain ⟨h0, h1, h2, h3, h4⟩ := h
  have hb := hg.block B h4 hne
  exact ⟨hg.cell h0 hne, hg.cell h1 hne, (World.frozen?_of_block (a := ⟨B, 0, none⟩) hb).trans h2, (World.frozen?_of_block (a := ⟨B, 1, none⟩) hb).trans h3, Nat.lt_of_lt_of_le h4 hg.size⟩
end Go.Proofs.YtpiicdpipjjenaaGreatDoor
namespace Go.Proofs.YtpiicdpipjjenaaGreatDoor
open Go.RowKit
set_option linter.unusedSimpArgs false
set_option linter.unusedVariables false

theorem bytes_back (w : World) (g cap : Nat) (l : List UInt8) (hc : ∀ j, j < l.length → w.cell? ⟨g, j, none⟩ = some (.int .u8 ((l.getD j 0).toNat : Int))) :
    (convert 53 9 (.slice (some ⟨g, 0, none⟩) l.length cap)).run Tryz.prog w = .ok (.string ⟨l.toArray⟩) w := by
  refine run_convert_bytes_back (P := Tryz.prog) w 53 9 5 ⟨g, 0, none⟩ cap l Tryz.underlying53 Tryz.underlying5 Tryz.underlying9 ?_
  intro j hj
  have ea : (⟨g, 0, none⟩ : Addr).add j = ⟨g, j, none⟩ := by cases j <;> simp [Addr.add]
  rw [ea, hc j hj]
  simp [List.getD, hj]

set_option maxHeartbeats 4000000 in
set_option maxRecDepth 20000 in
theorem writeFour_any (x : BitVec 128) (w : World) (hP : Pow w) :
    Calls Tryz.prog 60 #[.agg #[.int .u64 (hI x), .int .u64 (lI x)]] w fun e w' => e = .returned (.string (text4 x)) ∧ Below w.heap.size w w' := by
  obtain ⟨i0, hi, hz0, hz1, hz2⟩ := info_parts Tryz.infoB8
  rw [← fourL_text]
  go_enter Tryz.func60, Tryz.ntmps60
  go_wp2
  go_loopw [3, 5] (fun b i wr => ∃ k : Nat, k ≤ 4 ∧ i = .int .i64 (k : Int) ∧ wr.ownsRow (w.heap.size + 1) 5 1 b (fourL x k).length (Lib.byteCells (fourL x k)) ∧ wr.cell? ⟨w.heap.size, 0, none⟩ = some (.int .u64 (hI x)) ∧ wr.cell? ⟨w.heap.size, 1, none⟩ = some (.int .u64 (lI x)) ∧ Below w.heap.size w wr)
    (fun _ i _ => 4 - (intOf i).toNat)
  case atStart => exact ⟨0, by omega, rfl, World.ownsRow_nil _ _ _ _, by simp [go_sem], by simp [go_sem], bl1 _ _⟩
  case round =>
    obtain ⟨k, hk, rfl, hown, x0, x1, hB⟩ := hrel
    by_cases hlt : (k : Int) < 4
    · have hks : k < 4 := by omega
      have hn := fourL_len x k
      have hO : octN x k < 256 := by unfold octN; omega
      have KP := fun w => part_any x k 8 w (by omega) (by omega) (by omega) (by omega)
      have e120 : ((128 : Int) - 8).toNat = 120 := by decide
      have hdl := decL_lib (octN x k) hO
      have hdn := decL_len3 (octN x k) hO
      rw [e120, oct_part x k hks] at KP
      have HN : Hid (fourL x (k + 1) = (if k = 0 then [] else fourL x k ++ [46]) ++ decL (octN x k)) := rfl
      clear e120
      generalize octN x k = d at *
      have HD : Hid (Lib.decDigits d = decL d) := hdl
      clear hdl
      by_cases hk0 : (0 : Int) < (k : Int)
      · have hk0' : ¬ k = 0 := by omega
        have h47 : ((fourL x k).length + 1) * 1 ≤ 140737488355328 := by omega
        have h63 : (fourL x k).length + 1 ≤ maxLen := by unfold maxLen; omega
        have hsz : w.heap.size + 1 ≤ (wr.alloc (.cells #[.int .u8 46] 5)).heap.size := by have := cell_in x0; simp; omega
        have HL : Hid (fourL x (k + 1) = (fourL x k ++ [46]) ++ decL d) := by show _ = _; rw [HN.out, if_neg hk0']
        go_wp2_with (at_builtin; refine wpList_append_own _ rfl _ _ 53 rfl (w.heap.size + 1) 5 i0 (.int .u8 0) 1 1 Tryz.underlying53 hi hz0 hz1 hz2 rfl (by decide) _ _ _ rfl (hown.alloc _) ⟨wr.heap.size, 0, none⟩ 1 1 [Value.int .u8 46] rfl rfl (news_al _ _ _) (one_al _ _) h63 h47 hsz ?_)
        intro v1 w1 hown1 hgrow1 _
        obtain ⟨x0, x1, hB⟩ := app_keep (World.ownsRow.alloc hown _) hgrow1 (al_keep _ x0 x1 hB).1 (al_keep _ x0 x1 hB).2.1 (al_keep _ x0 x1 hB).2.2
        have ho : w1.ownsRow (w.heap.size + 1) 5 1 v1 (fourL x k ++ [46]).length (Lib.byteCells (fourL x k ++ [46])) := by
          have e1 : (fourL x k ++ [46]).length = (fourL x k).length + 1 := by simp
          have e2 : Lib.byteCells (fourL x k ++ [46]) = Lib.byteCells (fourL x k) ++ [Value.int .u8 46] := by simp [Lib.byteCells]
          rw [e1, e2]; exact hown1
        have hn' : (fourL x k ++ [46]).length ≤ 100 := by simp; omega
        clear hown hown1 hgrow1 HN hn h47 h63 hsz
        generalize fourL x k ++ [46] = l at *
        go_wp2_with fail
        refine (KP _).mono ?_
        rintro e w2 ⟨rfl, hb2⟩
        have x0 := keepc hb2 x0
        have x1 := keepc hb2 x1
        have hB := keepb hb2 hB
        have ho := own_below hb2 ho
        have hT := hP.keep hB
        have hsz : w.heap.size + 1 ≤ w2.heap.size := cell_in x0
        clear hb2 KP
        go_wp2_with fail
        refine (auint10 (w.heap.size + 1) l.length d (by omega) v1 (Lib.byteCells l) w2 ho hsz (by omega) hT).mono ?_
        rintro e w3 ⟨v3, rfl, ho3, hb3⟩
        have y0 : w3.cell? ⟨w.heap.size, 0, none⟩ = some (.int .u64 (hI x)) := (hb3.cell (p := ⟨w.heap.size, 0, none⟩) (Nat.lt_succ_self _)).trans x0
        have y1 : w3.cell? ⟨w.heap.size, 1, none⟩ = some (.int .u64 (lI x)) := (hb3.cell (p := ⟨w.heap.size, 1, none⟩) (Nat.lt_succ_self _)).trans x1
        have kB := hB.trans (hb3.mono (Nat.le_succ _))
        have ho4 : w3.ownsRow (w.heap.size + 1) 5 1 v3 (fourL x (k + 1)).length (Lib.byteCells (fourL x (k + 1))) := by
          rw [HL.out, List.length_append, show Lib.byteCells (l ++ decL d) = Lib.byteCells l ++ Lib.byteCells (decL d) by simp [Lib.byteCells], ← HD.out]
          exact ho3
        clear ho ho3 hb3 hT x0 x1 hB
        go_wp2
        go_roundw
        case rel => exact ⟨k + 1, by omega, by go_num, ho4, y0, y1, kB⟩
        case measure => simp [intOf]; omega
      · have hk0' : k = 0 := by omega
        have HL : Hid (fourL x (k + 1) = fourL x k ++ decL d) := by show _ = _; rw [HN.out, if_pos hk0', hk0']; rfl
        have hn' : (fourL x k).length ≤ 100 := by omega
        clear HN hn hk0'
        generalize fourL x k = l at *
        go_wp2_with fail
        refine (KP _).mono ?_
        rintro e w2 ⟨rfl, hb2⟩
        have x0 := keepc hb2 x0
        have x1 := keepc hb2 x1
        have hB := keepb hb2 hB
        have ho := own_below hb2 hown
        have hT := hP.keep hB
        have hsz : w.heap.size + 1 ≤ w2.heap.size := cell_in x0
        clear hb2 KP hown
        go_wp2_with fail
        refine (auint10 (w.heap.size + 1) l.length d (by omega) _ (Lib.byteCells l) w2 ho hsz (by omega) hT).mono ?_
        rintro e w3 ⟨v3, rfl, ho3, hb3⟩
        have y0 : w3.cell? ⟨w.heap.size, 0, none⟩ = some (.int .u64 (hI x)) := (hb3.cell (p := ⟨w.heap.size, 0, none⟩) (Nat.lt_succ_self _)).trans x0
        have y1 : w3.cell? ⟨w.heap.size, 1, none⟩ = some (.int .u64 (lI x)) := (hb3.cell (p := ⟨w.heap.size, 1, none⟩) (Nat.lt_succ_self _)).trans x1
        have kB := hB.trans (hb3.mono (Nat.le_succ _))
        have ho4 : w3.ownsRow (w.heap.size + 1) 5 1 v3 (fourL x (k + 1)).length (Lib.byteCells (fourL x (k + 1))) := by
          rw [HL.out, List.length_append, show Lib.byteCells (l ++ decL d) = Lib.byteCells l ++ Lib.byteCells (decL d) by simp [Lib.byteCells], ← HD.out]
          exact ho3
        clear ho ho3 hb3 hT x0 x1 hB
        go_wp2
        go_roundw
        case rel => exact ⟨k + 1, by omega, by go_num, ho4, y0, y1, kB⟩
        case measure => simp [intOf]; omega
    · have hk8 : k = 4 := by omega
      subst hk8
      have hpos : 0 < (fourL x 4).length := by
        show 0 < ((if 3 = 0 then [] else fourL x 3 ++ [46]) ++ decL (octN x 3)).length
        rw [if_neg (by decide)]; simp; omega
      obtain ⟨g, cap, rfl, -, -⟩ := hown.form hpos
      have hc : ∀ j, j < (fourL x 4).length → wr.cell? ⟨g, j, none⟩ = some (.int .u8 (((fourL x 4).getD j 0).toNat : Int)) := fun j hj => by
        have := hown.cellAt j (by omega)
        rw [this]
        simp [Lib.byteCells, List.getD, hj]
      have hv := bytes_back wr g cap (fourL x 4) hc
      clear hc hown hi hz0 hz1 hz2 x0 x1
      obtain ⟨l, hl⟩ : ∃ l, fourL x 4 = l := ⟨_, rfl⟩
      rw [hl] at hv ⊢
      have HL : Hid (fourL x 4 = l) := hl
      clear hl
      go_wp2
      go_ret
      exact ⟨by rw [HL.out]; rfl, hB⟩
end Go.Proofs.YtpiicdpipjjenaaGreatDoor
namespace Go.Proofs.YtpiicdpipjjenaaGreatDoor
open Go.RowKit
set_option linter.unusedSimpArgs false
set_option linter.unusedVariables false

def jnH (g : Nat → Nat) : Nat → List UInt8
  | 0 => []
  | k + 1 => (if k = 0 then [] else jnH g k ++ [58]) ++ hexL (g k)
theorem jnH_len (g : Nat → Nat) (hl : ∀ j, g j < 65536) (k : Nat) : (jnH g k).length ≤ 5 * k := by
  induction k with
  | zero => simp [jnH]
  | succ k ih =>
    have := (hexL_len _ (hl k)).2
    unfold jnH
    rw [List.length_append]
    split
    · simp; omega
    · simp; omega
def RowN (w : World) (C o : Nat) (g : Nat → Nat) (n : Nat) : Prop := ∀ j, j < n → w.cell? ⟨C, o + j, none⟩ = some (.int .u64 ((g j : Nat) : Int))
theorem RowN.below {w w' : World} {C o n : Nat} {g : Nat → Nat} (h : RowN w C o g n) (hb : Below w.heap.size w w') : RowN w' C o g n := fun j hj => keepc hb (h j hj)

set_option maxHeartbeats 4000000 in
set_option maxRecDepth 20000 in
theorem join_any (C o cap n : Nat) (g : Nat → Nat) (w : World) (hl : ∀ j, g j < 65536) (hn : n ≤ 8) (hR : RowN w C o g n) (hT : Tab w) :
    Calls Tryz.prog 89 #[.slice (some ⟨C, o, none⟩) n cap] w fun e w' => e = .returned (.string ⟨(jnH g n).toArray⟩) ∧ Below w.heap.size w w' := by
  obtain ⟨i0, hi, hz0, hz1, hz2⟩ := info_parts Tryz.infoB8
  have hn' : (n : Int) ≤ 8 := by omega
  go_enter Tryz.func89, Tryz.ntmps89
  go_wp2
  go_loopw [3, 8] (fun b i wr => ∃ k : Nat, k ≤ n ∧ i = .int .i64 (k : Int) ∧ wr.ownsRow w.heap.size 5 1 b (jnH g k).length (Lib.byteCells (jnH g k)) ∧ Below w.heap.size w wr)
    (fun _ i _ => n - (intOf i).toNat)
  case atStart => exact ⟨0, by omega, rfl, World.ownsRow_nil _ _ _ _, Below.refl _ _⟩
  case round =>
    obtain ⟨k, hk, rfl, hown, hB⟩ := hrel
    by_cases hlt : (k : Int) < (n : Int)
    · have hks : k < n := by omega
      have hcell : wr.cell? ⟨C, o + k, none⟩ = some (.int .u64 ((g k : Nat) : Int)) := (hR.below hB) k hks
      have hlen := jnH_len g hl k
      have hd := hl k
      have HN : Hid (jnH g (k + 1) = (if k = 0 then [] else jnH g k ++ [58]) ++ hexL (g k)) := rfl
      have hdl := (hexL_len _ hd).2
      generalize g k = d at *
      by_cases hk0 : (0 : Int) < (k : Int)
      · have h47 : (jnH g k).length + 1 ≤ 140737488355328 := by omega
        have h63 : (jnH g k).length + 1 ≤ maxLen := by unfold maxLen; omega
        have HL : Hid (jnH g (k + 1) = (jnH g k ++ [58]) ++ hexL d) := by show _ = _; rw [HN.out, if_neg (by omega)]
        go_wp2_with (at_builtin; refine Lib.wpList_append_own_string _ rfl _ _ 53 9 rfl w.heap.size 5 i0 Tryz.underlying53 Tryz.underlying9 hi hz0 hz1 hz2 _ _ _ rfl hown ⟨#[58]⟩ rfl h63 h47 hB.size ?_; intro v1 w1 hown1 hgrow1 _)
        have hB1 : Below w.heap.size w w1 := hB.grown hgrow1 hB.size (fun k hk => (hown.lt k hk).1)
        have ho : w1.ownsRow w.heap.size 5 1 v1 (jnH g k ++ [58]).length (Lib.byteCells (jnH g k ++ [58])) := by
          have e1 : (jnH g k ++ [58]).length = (jnH g k).length + 1 := by simp
          have e2 : Lib.byteCells (jnH g k ++ [58]) = Lib.byteCells (jnH g k) ++ Lib.strCells ⟨#[58]⟩ := by simp [Lib.byteCells, Lib.strCells]
          rw [e1, e2]; exact hown1
        have hn2 : (jnH g k ++ [58]).length ≤ 100 := by simp; omega
        have hB := hB1
        clear hown hown1 hgrow1 HN hlen h47 h63 hB1 hi hz0 hz1 hz2 hcell
        generalize jnH g k ++ [58] = l at *
        go_wp2_with fail
        refine (auint16 w.heap.size l.length d hd _ (Lib.byteCells l) _ ho hB.size (by omega) (hT.keep hB)).mono ?_
        rintro e w3 ⟨v3, rfl, ho3, hb3⟩
        have kB := hB.trans hb3
        have ho4 : w3.ownsRow w.heap.size 5 1 v3 (jnH g (k + 1)).length (Lib.byteCells (jnH g (k + 1))) := by
          rw [HL.out, List.length_append, show Lib.byteCells (l ++ hexL d) = Lib.byteCells l ++ Lib.byteCells (hexL d) by simp [Lib.byteCells]]
          exact ho3
        clear ho ho3 hb3 hB hR hT
        go_wp2
        go_roundw
        case rel => exact ⟨k + 1, by omega, by go_num, ho4, kB⟩
        case measure => simp [intOf]; omega
      · have hk0' : k = 0 := by omega
        have HL : Hid (jnH g (k + 1) = jnH g k ++ hexL d) := by show _ = _; rw [HN.out, if_pos hk0', hk0']; rfl
        have hn2 : (jnH g k).length ≤ 100 := by omega
        clear HN hlen hk0' hi hz0 hz1 hz2
        generalize jnH g k = l at *
        go_wp2_with fail
        refine (auint16 w.heap.size l.length d hd _ (Lib.byteCells l) _ hown hB.size (by omega) (hT.keep hB)).mono ?_
        rintro e w3 ⟨v3, rfl, ho3, hb3⟩
        have kB := hB.trans hb3
        have ho4 : w3.ownsRow w.heap.size 5 1 v3 (jnH g (k + 1)).length (Lib.byteCells (jnH g (k + 1))) := by
          rw [HL.out, List.length_append, show Lib.byteCells (l ++ hexL d) = Lib.byteCells l ++ Lib.byteCells (hexL d) by simp [Lib.byteCells]]
          exact ho3
        clear hown ho3 hb3 hB hcell hR hT
        go_wp2
        go_roundw
        case rel => exact ⟨k + 1, by omega, by go_num, ho4, kB⟩
        case measure => simp [intOf]; omega
    · have hk8 : k = n := by omega
      subst hk8
      obtain ⟨l, hl'⟩ : ∃ l, jnH g k = l := ⟨_, rfl⟩
      have HL : Hid (jnH g k = l) := hl'
      rw [hl'] at hown
      clear hl'
      rcases hown.2 with ⟨rfl, h0⟩ | ⟨b, cp, cur, rfl, r1, r2, r3, r4, r5, r6⟩
      · have hl0 : l = [] := List.eq_nil_of_length_eq_zero h0
        subst hl0
        have hv : (convert 53 9 (.slice none 0 0)).run Tryz.prog wr = .ok (.string ⟨#[]⟩) wr := by
          rw [run_convert_bytes_string wr 53 9 5 _ _ _ Tryz.underlying53 Tryz.underlying5 Tryz.underlying9]
          simp [Conv.bytesToString]
          rfl
        clear hown hi hz0 hz1 hz2 hR hT
        go_wp2
        go_ret
        exact ⟨by rw [HL.out]; rfl, hB⟩
      · have hc : ∀ j, j < l.length → wr.cell? ⟨b, j, none⟩ = some (.int .u8 ((l.getD j 0).toNat : Int)) := fun j hj => by
          have := hown.cellAt j (by omega)
          rw [this]
          simp [Lib.byteCells, List.getD, hj]
        have hv := bytes_back wr b cp l hc
        clear hc hown hi hz0 hz1 hz2 r1 r2 r3 r4 r5 r6 hR hT
        go_wp2
        go_ret
        exact ⟨by rw [HL.out]; rfl, hB⟩
end Go.Proofs.YtpiicdpipjjenaaGreatDoor
namespace Go.Proofs.YtpiicdpipjjenaaGreatDoor
open Go.RowKit
set_option linter.unusedSimpArgs false
set_option linter.unusedVariables false

theorem new8 (w : World) (G : Nat → Int) (T : TypeId) : ∀ k, k < 8 → (w.alloc (.cells #[.int .u64 (G 0), .int .u64 (G 1), .int .u64 (G 2), .int .u64 (G 3), .int .u64 (G 4), .int .u64 (G 5), .int .u64 (G 6), .int .u64 (G 7)] T)).cell? ⟨w.heap.size, k, none⟩ = some (.int .u64 (G k)) := by
  intro k hk
  rw [World.cell?_alloc_new]
  rcases k with _ | _ | _ | _ | _ | _ | _ | _ | k
  all_goals first | rfl | omega
set_option maxHeartbeats 4000000 in
set_option maxRecDepth 20000 in
theorem longestRow_any (G : Nat → Int) (w : World) :
    Calls Tryz.prog 88 #[.agg #[.int .u64 (G 0), .int .u64 (G 1), .int .u64 (G 2), .int .u64 (G 3), .int .u64 (G 4), .int .u64 (G 5), .int .u64 (G 6), .int .u64 (G 7)]] w fun e w' => e = .returned (.tuple #[.int .i64 ((bsG G 8 0 0 0).1 : Nat), .int .i64 ((bsG G 8 0 0 0).2 : Nat)]) ∧ Below w.heap.size w w' := by
  have hrow : Hid (∀ k, k < 8 → (w.alloc (.cells #[.int .u64 (G 0), .int .u64 (G 1), .int .u64 (G 2), .int .u64 (G 3), .int .u64 (G 4), .int .u64 (G 5), .int .u64 (G 6), .int .u64 (G 7)] 124)).cell? ⟨w.heap.size, k, none⟩ = some (.int .u64 (G k))) := new8 w G _
  go_enter Tryz.func88, Tryz.ntmps88
  go_wp2
  have hBW := bl1 w (.cells #[.int .u64 (G 0), .int .u64 (G 1), .int .u64 (G 2), .int .u64 (G 3), .int .u64 (G 4), .int .u64 (G 5), .int .u64 (G 6), .int .u64 (G 7)] 124)
  obtain ⟨W, HW⟩ : ∃ W, Hid ((w.alloc (.cells #[.int .u64 (G 0), .int .u64 (G 1), .int .u64 (G 2), .int .u64 (G 3), .int .u64 (G 4), .int .u64 (G 5), .int .u64 (G 6), .int .u64 (G 7)] 124)) = W) := ⟨_, rfl⟩
  rw [HW.out] at hrow hBW ⊢
  go_step3
  go_wp2
  go_step3
  go_wp2
  go_loopw [2, 3, 6] (fun p q r wz => ∃ (i a b : Nat), p = .int .i64 a ∧ q = .int .i64 b ∧ r = .int .i64 i ∧ i ≤ 8 ∧ a ≤ 8 ∧ b ≤ 8 ∧ Hid (bsG G (8 - i) i a b = bsG G 8 0 0 0) ∧ wz = W) (fun _ _ r _ => 8 - (intOf r).toNat)
  case atStart => exact ⟨0, 0, 0, rfl, rfl, rfl, by omega, by omega, by omega, rfl, rfl⟩
  case round =>
    obtain ⟨i, a, b, rfl, rfl, rfl, hi8, ha8, hb8, HR, rfl⟩ := hrel
    by_cases hlt : i < 8
    · have hi2 : (i : Int) < 8 := by omega
      have HU : Hid (8 - i = (8 - (i + 1)) + 1) := by show _ = _; omega
      have HS : Hid (∀ f, bsG G (f + 1) i a b = if b < rnG G i 9 0 then bsG G f (i + 1) i (rnG G i 9 0) else bsG G f (i + 1) a b) := fun _ => rfl
      go_wp2
      go_loopw [2, 3, 5] (fun p q r wz2 => ∃ (n c d m : Nat), p = .int .i64 c ∧ q = .int .i64 d ∧ r = .int .i64 m ∧ m = i + n ∧ m ≤ 8 ∧ c ≤ 8 ∧ d ≤ 8 ∧ Hid ((b < n ∧ c = i ∧ d = n) ∨ (¬ b < n ∧ c = a ∧ d = b)) ∧ Hid (rnG G i (9 - n) n = rnG G i 9 0) ∧ wz2 = wr) (fun _ _ r _ => 9 - (intOf r).toNat)
      case atStart => exact ⟨0, a, b, i, rfl, rfl, rfl, by omega, by omega, by omega, by omega, Or.inr ⟨by omega, rfl, rfl⟩, rfl, rfl⟩
      case round =>
        obtain ⟨n, c, d, m, rfl, rfl, rfl, hmn, hm8, hc8, hd8, HD, HN, rfl⟩ := hrel
        have HMN : Hid (m = i + n) := hmn
        clear hmn
        have HUN : Hid (9 - n = (9 - (n + 1)) + 1) := by show _ = _; have := HMN.out; omega
        have HSN : Hid (∀ f, rnG G i (f + 1) n = if i + n < 8 ∧ G (i + n) = 0 then rnG G i f (n + 1) else n) := fun _ => rfl
        by_cases hc : m < 8
        · have hcell := hrow.out m hc
          have hm2 : (m : Int) < 8 := by omega
          have HSN2 : Hid (rnG G i (9 - n) n = if G m = 0 then rnG G i (9 - (n + 1)) (n + 1) else n) := by
            show _ = _
            rw [HUN.out, HSN.out, HMN.out]
            by_cases q : G (i + n) = 0
            · rw [if_pos ⟨by have := HMN.out; omega, q⟩, if_pos q]
            · rw [if_neg (fun z => q z.2), if_neg q]
          generalize G m = v at *
          clear HUN HSN
          by_cases hv0 : v = 0
          · have HF : Hid (rnG G i (9 - (n + 1)) (n + 1) = rnG G i 9 0) := by show _ = _; rw [← HN.out, HSN2.out, if_pos hv0]
            subst hv0
            have u1 : IntKind.i64.wrap ((m : Int) - (i : Int)) = (n : Int) := by rw [IntKind.wrap_i64]; have := HMN.out; omega
            have u2 : IntKind.i64.wrap ((n : Int) + 1) = (n : Int) + 1 := by rw [IntKind.wrap_i64]; have := HMN.out; omega
            clear HSN2 HN
            by_cases hdn : (d : Int) < (n : Int) + 1
            · have HD2 : Hid ((b < n + 1 ∧ i = i ∧ n + 1 = n + 1) ∨ (¬ b < n + 1 ∧ i = a ∧ n + 1 = b)) := by
                have := HD.out
                left; refine ⟨by omega, rfl, rfl⟩
              clear HD
              go_wp2
              go_roundw
              case rel => exact ⟨n + 1, i, n + 1, m + 1, rfl, by go_num, by go_num, by have := HMN.out; omega, by omega, by omega, by have := HMN.out; omega, HD2, HF, trivial⟩
              case measure => simp [intOf]; omega
            · have HD2 : Hid ((b < n + 1 ∧ c = i ∧ d = n + 1) ∨ (¬ b < n + 1 ∧ c = a ∧ d = b)) := by
                have := HD.out
                right; refine ⟨by omega, by omega, by omega⟩
              clear HD
              go_wp2
              go_roundw
              case rel => exact ⟨n + 1, c, d, m + 1, rfl, rfl, by go_num, by have := HMN.out; omega, by omega, by omega, by omega, HD2, HF, trivial⟩
              case measure => simp [intOf]; omega
          · have HF : Hid (rnG G i 9 0 = n) := by show _ = _; rw [← HN.out, HSN2.out, if_neg hv0]
            have hvb : (v != 0) = true := by simp [hv0]
            have HR2 : Hid (bsG G (8 - (i + 1)) (i + 1) c d = bsG G 8 0 0 0) := by
              show _ = _
              rw [← HR.out, HU.out, HS.out, HF.out]
              rcases HD.out with ⟨q1, q2, q3⟩ | ⟨q1, q2, q3⟩
              · rw [if_pos q1, q2, q3]
              · rw [if_neg q1, q2, q3]
            clear HSN2 HN HR HS HU HF HD
            go_wp2
            go_roundw
            case rel => exact ⟨i + 1, c, d, rfl, rfl, by go_num, by omega, by omega, by omega, HR2, trivial⟩
            case measure => simp [intOf]; omega
        · have hm2 : ¬ (m : Int) < 8 := by omega
          have HF : Hid (rnG G i 9 0 = n) := by show _ = _; rw [← HN.out, HUN.out, HSN.out, if_neg (fun z => hc (by have := HMN.out; omega))]
          have HR2 : Hid (bsG G (8 - (i + 1)) (i + 1) c d = bsG G 8 0 0 0) := by
            show _ = _
            rw [← HR.out, HU.out, HS.out, HF.out]
            rcases HD.out with ⟨q1, q2, q3⟩ | ⟨q1, q2, q3⟩
            · rw [if_pos q1, q2, q3]
            · rw [if_neg q1, q2, q3]
          clear HUN HSN HN HR HS HU HF HD
          go_wp2
          go_roundw
          case rel => exact ⟨i + 1, c, d, rfl, rfl, by go_num, by omega, by omega, by omega, HR2, trivial⟩
          case measure => simp [intOf]; omega
    · have hi2 : ¬ (i : Int) < 8 := by omega
      have HF : Hid (bsG G 8 0 0 0 = (a, b)) := by
        show _ = _
        rw [← HR.out, show 8 - i = 0 by omega]; rfl
      clear HR
      go_wp2
      try rw [Exit.noGoto_ret]
      go_ret2
      exact ⟨by rw [HF.out]; rfl, hBW⟩
end Go.Proofs.YtpiicdpipjjenaaGreatDoor
