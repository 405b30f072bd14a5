/-
  Part 21 of the proof: 2 texts, one behind the other.
-/
import Derived.Test.YtologchdnjnadaaDoorPart18
import Derived.Test.YtologchdnjnadaaDoorPart20
import Derived.Test.YtologchdnjnadaaDoorPart3
import Derived.Laws.IdiomStrings
import Derived.Test.YtologchdnjnadaaDoorPart2
import Derived.Deep.Slices
import Derived.Carry
import Derived.SizedLaws
import Derived.ProofKit
import Derived.Lib.SmallJoins
/-
  AsmTurns: of code's text, a byte turned, some taken out, some laid in.
-/
namespace Go.Proofs.YtologchdnjnadaaDoor
open Go.RowKit Go.Shelf
set_option linter.unusedSimpArgs false
set_option linter.unusedVariables false

theorem prL_len2 (l : List Nat) (hx : ∀ b ∈ l, b < 256) : ∀ (f k : Nat), (prL l f k).length ≤ 130 * (l.length / 4 - k)
  | 0, k => Nat.zero_le _
  | f + 1, k => by
    show (if k < l.length / 4 then lnT l k ++ prL l f (k + lnZ l k) else []).length ≤ _
    split
    · rename_i h
      have h1 := lnT_len l k hx
      have h2 := lnZ_le l k hx h
      have h3 := prL_len2 l hx f (k + lnZ l k)
      rw [List.length_append]
      omega
    · exact Nat.zero_le _
theorem prT_len2 (l : List Nat) (hx : ∀ b ∈ l, b < 256) : (prT l).length ≤ 130 * (l.length / 4) := by
  unfold prT
  split
  · exact prL_len2 l hx _ 0
  · exact Nat.zero_le _
def RowU (W : World) (B : Nat) (l : List UInt8) : Prop := ∀ j (hj : j < l.length), W.cell? ⟨B, j, none⟩ = some (.int .u8 (l[j].toNat : Int))
theorem RowU.below {W W' : World} {B : Nat} {l : List UInt8} (h : RowU W B l) (hb : Below W.heap.size W W') : RowU W' B l := fun j hj => keepc hb (h j hj)
theorem set_row (t : ByteArray) (W : World) (B i : Nat) (v : Int) (hit : i < t.size) (hv0 : 0 ≤ v) (hv1 : v < 256) (h : ∀ j, j < t.size → W.cell? ⟨B, j, none⟩ = some (.int .u8 (byteAt t j)) ∧ W.frozen? ⟨B, j, none⟩ = false) :
    ∃ l : List UInt8, l.length = t.size ∧ RowU (W.setCell ⟨B, i, none⟩ (.int .u8 v)).drew B l := by
  refine ⟨t.data.toList.set i (UInt8.ofNat v.toNat), by simp, ?_⟩
  intro j hj
  have hj' : j < t.size := by simpa using hj
  show (W.setCell ⟨B, i, none⟩ (.int .u8 v)).cell? ⟨B, j, none⟩ = _
  by_cases e : i = j
  · subst e
    rw [World.cell?_setCell_same W ⟨B, i, none⟩ (.int .u8 v) (h i hit).1]
    have : (UInt8.ofNat v.toNat).toNat = v.toNat := by rw [UInt8.toNat_ofNat']; omega
    simp [this]
    omega
  · rw [World.cell?_setCell_other W ⟨B, i, none⟩ ⟨B, j, none⟩ (.int .u8 v) (by simp [e]), (h j hj').1]
    rw [← byteAt_in t j hj']
    simp [List.getElem_set, e]
    rfl

/-- '[]byte(s)'. -/
theorem str_bytes (s : ByteArray) (w : World) : ∃ cap W, (convert 9 22 (.string s)).run Tryd.prog w = .ok (.slice (some ⟨w.heap.size, 0, none⟩) s.size cap) W ∧ (∀ j, j < s.size → W.cell? ⟨w.heap.size, j, none⟩ = some (.int .u8 (byteAt s j)) ∧ W.frozen? ⟨w.heap.size, j, none⟩ = false) ∧ Below w.heap.size w W ∧ w.heap.size < W.heap.size := by
  refine ⟨_, _, run_bytes_of_string (P := Tryd.prog) w 9 22 5 s Tryd.underlying9 Tryd.underlying22 Tryd.underlying5, ?_, ?_, ?_⟩
  · intro j hj
    have hj' : j < s.data.size := hj
    have hb := bytesRow_at s (grownCap w s.size 0 5) j hj'
    have hbd : (s.data[j].toNat : Int) = byteAt s j := by
      have := byteAt_in s j hj
      exact this
    rw [hbd] at hb
    have hlt : j < (bytesRow s (grownCap w s.size 0 5)).size := by
      have := (Array.getElem?_eq_some_iff.mp hb).1
      exact this
    have hh := heap_alloc_new w.drew (.cells (bytesRow s (grownCap w s.size 0 5)) 5 ((bytesRow s (grownCap w s.size 0 5)).size, (bytesRow s (grownCap w s.size 0 5)).size + 1))
    have hh' : (w.drew.alloc (.cells (bytesRow s (grownCap w s.size 0 5)) 5 ((bytesRow s (grownCap w s.size 0 5)).size, (bytesRow s (grownCap w s.size 0 5)).size + 1))).heap[w.heap.size]? = some (.cells (bytesRow s (grownCap w s.size 0 5)) 5 ((bytesRow s (grownCap w s.size 0 5)).size, (bytesRow s (grownCap w s.size 0 5)).size + 1)) := hh
    refine ⟨?_, ?_⟩
    · unfold World.cell?
      rw [hh']
      exact hb
    · unfold World.frozen?
      rw [hh']
      simp; omega
  · exact (Below.refl _ _).drew.alloc (Nat.le_refl _) _
  · simp
/-- A number from 0 to n - 1. -/
def wth15 (a n : Int) : Int := if a.tmod n < 0 then a.tmod n + n else a.tmod n
theorem wth15_in (a n : Int) (hn : 0 < n) : 0 ≤ wth15 a n ∧ wth15 a n < n := by
  unfold wth15
  have h1 := Int.tmod_lt_of_pos a hn
  have h2 := Int.lt_tmod_of_pos a hn
  split <;> constructor <;> omega
theorem within15 (a n : Int) (hn : 0 < n) (hm : n ≤ 1000000000000000000) (w : World) :
    Calls Tryd.prog 13 #[.int .i64 a, .int .i64 n] w fun e w' => e = .returned (.int .i64 (wth15 a n)) ∧ w' = w := by
  have h1 := Int.tmod_lt_of_pos a hn
  have h2 := Int.lt_tmod_of_pos a hn
  have hne : ¬ n = 0 := by omega
  have hne1 : ¬ n = -1 := by omega
  obtain ⟨r, hr⟩ : ∃ r, r = a.tmod n := ⟨_, rfl⟩
  have HR := hid13 hr
  rw [← hr] at h1 h2
  have hr' := hr.symm
  clear hr
  by_cases c : r < 0
  · have w2 : IntKind.i64.wrap (r + n) = r + n := by rw [IntKind.wrap_i64]; omega
    have HE : Hid (wth15 a n = r + n) := by show _ = _; unfold wth15; rw [← HR.out, if_pos c]
    go_enter Tryd.func13, Tryd.ntmps13
    go_wp2
    go_ret
    exact ⟨by rw [HE.out]; rfl, rfl⟩
  · have HE : Hid (wth15 a n = r) := by show _ = _; unfold wth15; rw [← HR.out, if_neg c]
    go_enter Tryd.func13, Tryd.ntmps13
    go_wp2
    go_ret
    exact ⟨by rw [HE.out]; rfl, rfl⟩
set_option maxRecDepth 100000 in
set_option maxHeartbeats 32000000 in
theorem asmTurns_any (v : Value) (l : List Nat) (a : Int) (y : Nat) (o : Int) (m : ByteArray) (w : World) (hA : RowA w 1 v l.length (l.map cB)) (hv : RwX cB w v l) (hl : l.length ≤ 140737488351232) (hx : ∀ b ∈ l, b < 256) (ha0 : -9223372036854775808 ≤ a) (ha1 : a ≤ 9223372036854775807) (hy : y < 256) (ho0 : -9223372036854775808 ≤ o) (ho1 : o ≤ 9223372036854775807) (hN : Nm w) (hP : Pow15 w) :
    Calls Tryd.prog 5 #[v, .int .i64 a, .int .u8 (y : Int), .int .i64 o, .string m] w fun e w' => e = .returned (.bool true) ∧ Below w.heap.size w w' := by
  have K0 := known15 w hN hP
  have HNk := hid13 hN
  have HPk := hid13 hP
  have HV := hid13 hv
  have HX := hid13 hx
  obtain ⟨ao, cp, rfl, hcp, -⟩ := id hv
  clear hA hv hx hN hP hcp ha0 ha1 ho0 ho1
  by_cases h1 : (2048 : Int) < (l.length : Int)
  · go_enter Tryd.func5, Tryd.ntmps5
    go_wp2_with fail
    refine K0.mono ?_
    rintro e w1 ⟨rfl, hb⟩
    have HB1 := hid13 hb
    clear K0 hb
    go_wp2
    exact bodyPost_ret (v := .bool true) (by simp [results, Tryd.results5, go_sem]) rfl ⟨rfl, HB1.out⟩
  by_cases hm2 : (100 : Int) < (m.size : Int)
  · go_enter Tryd.func5, Tryd.ntmps5
    go_wp2_with fail
    refine K0.mono ?_
    rintro e w1 ⟨rfl, hb⟩
    have HB1 := hid13 hb
    clear K0 hb
    go_wp2
    exact bodyPost_ret (v := .bool true) (by simp [results, Tryd.results5, go_sem]) rfl ⟨rfl, HB1.out⟩
  have htl := prT_len2 l HX.out
  go_enter Tryd.func5, Tryd.ntmps5
  go_wp2_with fail
  refine K0.mono ?_
  rintro e w1 ⟨rfl, hb⟩
  have HB1 := hid13 hb
  have KT := rdprint_any (.slice ao l.length cp) l w1 (HV.out.below hb) (by omega) HX.out
  obtain ⟨t, ht⟩ : ∃ t : ByteArray, (⟨(prT l).toArray⟩ : ByteArray) = t := ⟨_, rfl⟩
  have htz : t.size ≤ 130 * (l.length / 4) := by rw [← ht]; show (prT l).toArray.size ≤ _; rw [List.size_toArray]; exact htl
  have ht6 : t.size ≤ 100000 := by omega
  rw [ht] at KT
  clear K0 hb ht htl htz
  obtain ⟨z, hz⟩ : ∃ z, z = prE l := ⟨_, rfl⟩
  rw [← hz] at KT
  clear hz
  go_wp2_with fail
  refine KT.mono ?_
  rintro e w2 ⟨rfl, hb⟩
  have HB2 := hid13 (keepb hb HB1.out)
  clear KT hb HB1
  by_cases hz : ¬ z = 0
  · have hzb : (z == 0) = false := by simpa using hz
    go_wp2
    exact bodyPost_ret (v := .bool true) (by simp [results, Tryd.results5, go_sem]) rfl ⟨rfl, HB2.out⟩
  have hz0 : z = 0 := Classical.byContradiction hz
  clear hz
  subst hz0
  by_cases he : t.toList = []
  · have heb : t.toList.isEmpty = true := by rw [he]; rfl
    go_wp2
    exact bodyPost_ret (v := .bool true) (by simp [results, Tryd.results5, go_sem]) rfl ⟨rfl, HB2.out⟩
  have hts : 0 < t.size := by
    apply Classical.byContradiction
    intro q
    refine he ?_
    unfold ByteArray.toList ByteArray.toList.loop
    rw [if_neg (by omega)]
    rfl
  have heb : t.toList.isEmpty = false := by simpa using he
  have KW := fun W => within15 a (t.size : Int) (by omega) (by omega) W
  obtain ⟨b1, b2⟩ := wth15_in a (t.size : Int) (by omega)
  obtain ⟨i, hi⟩ : ∃ i : Nat, wth15 a (t.size : Int) = (i : Int) := ⟨(wth15 a (t.size : Int)).toNat, by omega⟩
  rw [hi] at KW b1 b2
  clear hi
  have hit : i < t.size := by omega
  obtain ⟨mn, hmn⟩ : ∃ mn : Int, min 20 ((t.size : Int) - (i : Int)) = mn := ⟨_, rfl⟩
  have hmb : 0 ≤ mn ∧ mn ≤ 20 ∧ mn ≤ (t.size : Int) - (i : Int) := by omega
  have KV := fun W => within15 o (mn + 1) (by omega) (by omega) W
  obtain ⟨c1, c2⟩ := wth15_in o (mn + 1) (by omega)
  obtain ⟨jj, hj⟩ : ∃ jj : Nat, wth15 o (mn + 1) = (jj : Int) := ⟨(wth15 o (mn + 1)).toNat, by omega⟩
  rw [hj] at KV c1 c2
  clear hj
  obtain ⟨j, hjd⟩ : ∃ j : Nat, j = i + jj := ⟨_, rfl⟩
  have hjt : j ≤ t.size := by omega
  have hij : i ≤ j := by omega
  have ws : IntKind.i64.wrap ((t.size : Int) - (i : Int)) = (t.size : Int) - (i : Int) := by rw [IntKind.wrap_i64]; omega
  have wm : IntKind.i64.wrap (mn + 1) = mn + 1 := by rw [IntKind.wrap_i64]; omega
  have wj : IntKind.i64.wrap ((i : Int) + (jj : Int)) = (j : Int) := by rw [IntKind.wrap_i64]; omega
  clear b1 b2 c1 c2 hjd
  go_wp2_with fail
  refine (KW _).mono ?_
  rintro e w3 ⟨rfl, hw3⟩
  rw [hw3]; clear hw3 KW w3
  go_wp2_with fail
  refine (KV _).mono ?_
  rintro e w3 ⟨rfl, hw3⟩
  rw [hw3]; clear hw3 KV w3
  obtain ⟨cap, W, hconv, hcells, hWB, hWs⟩ := str_bytes t w2
  have HC : Hid (∀ j, j < t.size → W.cell? ⟨w2.heap.size, j, none⟩ = some (.int .u8 (byteAt t j)) ∧ W.frozen? ⟨w2.heap.size, j, none⟩ = false) := hcells
  obtain ⟨q0, q1⟩ := hcells i hit
  have bb := byteAt_bd t i
  have HBW := hid13 (keepb hWB HB2.out)
  have hB2 := HB2.out.size
  have hi2 : (i : Int) < (t.size : Int) := by omega
  have hj2 : (j : Int) ≤ (t.size : Int) := by omega
  have hij2 : (i : Int) ≤ (j : Int) := by omega
  have wy : IntKind.u8.wrap (byteAt t i + (y : Int)) = (byteAt t i + (y : Int)) % 256 := by simp [IntKind.wrap, IntKind.bits, IntKind.signed]
  clear hcells hWB HB2
  generalize hbi : byteAt t i = bi at *
  go_wp2_with fail
  obtain ⟨l9, hlen, hR⟩ := set_row t W w2.heap.size i ((bi + (y : Int)) % 256) hit (by omega) (by omega) HC
  have hRB : Below w.heap.size w (W.setCell ⟨w2.heap.size, i, none⟩ (.int .u8 ((bi + (y : Int)) % 256))).drew := (HBW.out.setCell (by first | (show w.heap.size ≤ w2.heap.size; omega) | omega) _).drew
  have HK : ∀ s W, Below w.heap.size w W → Calls Tryd.prog 4 #[.string s] W fun e w' => e = .returned (.bool true) ∧ Below W.heap.size W w' := fun s W hb => asmReads_any s W (HNk.out.below hb) (HPk.out.keep hb)
  have hc1 : ¬ 9223372036854775807 < i + (t.size - j) := by omega
  have hc2 : ¬ 9223372036854775807 < i + m.size := by omega
  have hc3 : ¬ 9223372036854775807 < i + m.size + (t.size - i) := by omega
  clear HC HBW hWs q0 q1 bb hbi hconv wy ws wm wj hmn hmb HV HX HNk HPk
  generalize w2.heap.size = B9 at *
  refine qw_region (C := fun w' => RowU w' B9 l9 ∧ Below w.heap.size w w') (by kernel_rfl) (by kernel_rfl) ⟨hR, hRB⟩ ?_
  clear hR hRB
  refine qw_run (v := .slice (some ⟨B9, 0, none⟩) t.size cap) (by rfl) ?_ ?_
  · (intro w1 hC; obtain ⟨c1, c2⟩ := hC; go_simp; first | done | (simp; done) | (simp [*]; done) | omega | (simp; omega) | (rw [IntKind.wrap_i64]; omega) | rfl)
  simp only [Act.put, List.setIfInBounds_toArray, List.set_cons_zero, List.set_cons_succ]
  refine qw_run (v := .string ⟨l9.toArray⟩) (by rfl) ?_ ?_
  · (intro w1 hC; obtain ⟨c1, c2⟩ := hC; have hcv := run_convert_bytes_back (P := Tryd.prog) w1 22 9 5 ⟨B9, 0, none⟩ cap l9 Tryd.underlying22 Tryd.underlying5 Tryd.underlying9 (fun j hj => by have h7 := c1 j hj; have ea : (⟨B9, 0, none⟩ : Addr).add j = ⟨B9, j, none⟩ := (by cases j <;> simp [Addr.add]); rw [ea]; exact h7); rw [hlen] at hcv; go_simp; first | done | (simp [hcv]; done) | (simp [*]; done))
  simp only [Act.put, List.setIfInBounds_toArray, List.set_cons_zero, List.set_cons_succ]
  refine qw_call (v := .bool true) (f := 4) (args := #[.string ⟨l9.toArray⟩]) (by rfl) ?_ ?_ ?_
  · (intro w1 hC; clear hC; go_simp)
  · exact fun w1 hC => (HK ⟨l9.toArray⟩ w1 hC.2).mono fun e w' ⟨he, hb⟩ => ⟨he, ⟨hC.1.below hb, keepb hb hC.2⟩⟩
  simp only [Act.put, List.setIfInBounds_toArray, List.set_cons_zero, List.set_cons_succ]
  refine qw_run (v := .bool true) (by rfl) ?_ ?_
  · (intro w1 hC; obtain ⟨c1, c2⟩ := hC; go_simp; first | done | (simp; done) | (simp [*]; done) | omega | (simp; omega) | (rw [IntKind.wrap_i64]; omega) | rfl)
  simp only [Act.put, List.setIfInBounds_toArray, List.set_cons_zero, List.set_cons_succ]
  refine qw_run (v := .string t) (by rfl) ?_ ?_
  · (intro w1 hC; obtain ⟨c1, c2⟩ := hC; go_simp; first | done | (simp; done) | (simp [*]; done) | omega | (simp; omega) | (rw [IntKind.wrap_i64]; omega) | rfl)
  simp only [Act.put, List.setIfInBounds_toArray, List.set_cons_zero, List.set_cons_succ]
  refine qw_run (v := .int .i64 (i : Int)) (by rfl) ?_ ?_
  · (intro w1 hC; obtain ⟨c1, c2⟩ := hC; go_simp; first | done | (simp; done) | (simp [*]; done) | omega | (simp; omega) | (rw [IntKind.wrap_i64]; omega) | rfl)
  simp only [Act.put, List.setIfInBounds_toArray, List.set_cons_zero, List.set_cons_succ]
  refine qw_run (v := .string (t.extract 0 i)) (by rfl) ?_ ?_
  · (intro w1 hC; obtain ⟨c1, c2⟩ := hC; clear HK; go_simp; first | done | omega | (intro hx; omega) | (simp; done) | (simp [*]; done) | (simp; omega))
  simp only [Act.put, List.setIfInBounds_toArray, List.set_cons_zero, List.set_cons_succ]
  refine qw_run (v := .string t) (by rfl) ?_ ?_
  · (intro w1 hC; obtain ⟨c1, c2⟩ := hC; go_simp; first | done | (simp; done) | (simp [*]; done) | omega | (simp; omega) | (rw [IntKind.wrap_i64]; omega) | rfl)
  simp only [Act.put, List.setIfInBounds_toArray, List.set_cons_zero, List.set_cons_succ]
  refine qw_run (v := .int .i64 (j : Int)) (by rfl) ?_ ?_
  · (intro w1 hC; obtain ⟨c1, c2⟩ := hC; go_simp; first | done | (simp; done) | (simp [*]; done) | omega | (simp; omega) | (rw [IntKind.wrap_i64]; omega) | rfl)
  simp only [Act.put, List.setIfInBounds_toArray, List.set_cons_zero, List.set_cons_succ]
  refine qw_run (v := .string (t.extract j t.size)) (by rfl) ?_ ?_
  · (intro w1 hC; obtain ⟨c1, c2⟩ := hC; clear HK; go_simp; first | done | omega | (intro hx; omega) | (simp; done) | (simp [*]; done) | (simp; omega))
  simp only [Act.put, List.setIfInBounds_toArray, List.set_cons_zero, List.set_cons_succ]
  refine qw_run (v := .string (t.extract 0 i ++ t.extract j t.size)) (by rfl) ?_ ?_
  · (intro w1 hC; obtain ⟨c1, c2⟩ := hC; clear HK; go_simp; first | done | omega | (intro hx; omega) | (simp; done) | (simp [*]; done) | (simp; omega))
  simp only [Act.put, List.setIfInBounds_toArray, List.set_cons_zero, List.set_cons_succ]
  refine qw_call (v := .bool true) (f := 4) (args := #[.string (t.extract 0 i ++ t.extract j t.size)]) (by rfl) ?_ ?_ ?_
  · (intro w1 hC; clear hC; go_simp)
  · exact fun w1 hC => (HK (t.extract 0 i ++ t.extract j t.size) w1 hC.2).mono fun e w' ⟨he, hb⟩ => ⟨he, ⟨hC.1.below hb, keepb hb hC.2⟩⟩
  simp only [Act.put, List.setIfInBounds_toArray, List.set_cons_zero, List.set_cons_succ]
  refine qw_run (v := .bool true) (by rfl) ?_ ?_
  · (intro w1 hC; obtain ⟨c1, c2⟩ := hC; go_simp; first | done | (simp; done) | (simp [*]; done) | omega | (simp; omega) | (rw [IntKind.wrap_i64]; omega) | rfl)
  simp only [Act.put, List.setIfInBounds_toArray, List.set_cons_zero, List.set_cons_succ]
  refine qw_run (v := .bool true) (by rfl) ?_ ?_
  · (intro w1 hC; obtain ⟨c1, c2⟩ := hC; go_simp; first | done | (simp; done) | (simp [*]; done) | omega | (simp; omega) | (rw [IntKind.wrap_i64]; omega) | rfl)
  simp only [Act.put, List.setIfInBounds_toArray, List.set_cons_zero, List.set_cons_succ]
  refine qw_run (v := .string t) (by rfl) ?_ ?_
  · (intro w1 hC; obtain ⟨c1, c2⟩ := hC; go_simp; first | done | (simp; done) | (simp [*]; done) | omega | (simp; omega) | (rw [IntKind.wrap_i64]; omega) | rfl)
  simp only [Act.put, List.setIfInBounds_toArray, List.set_cons_zero, List.set_cons_succ]
  refine qw_run (v := .int .i64 (i : Int)) (by rfl) ?_ ?_
  · (intro w1 hC; obtain ⟨c1, c2⟩ := hC; go_simp; first | done | (simp; done) | (simp [*]; done) | omega | (simp; omega) | (rw [IntKind.wrap_i64]; omega) | rfl)
  simp only [Act.put, List.setIfInBounds_toArray, List.set_cons_zero, List.set_cons_succ]
  refine qw_run (v := .string (t.extract 0 i)) (by rfl) ?_ ?_
  · (intro w1 hC; obtain ⟨c1, c2⟩ := hC; clear HK; go_simp; first | done | omega | (intro hx; omega) | (simp; done) | (simp [*]; done) | (simp; omega))
  simp only [Act.put, List.setIfInBounds_toArray, List.set_cons_zero, List.set_cons_succ]
  refine qw_run (v := .string m) (by rfl) ?_ ?_
  · (intro w1 hC; obtain ⟨c1, c2⟩ := hC; go_simp; first | done | (simp; done) | (simp [*]; done) | omega | (simp; omega) | (rw [IntKind.wrap_i64]; omega) | rfl)
  simp only [Act.put, List.setIfInBounds_toArray, List.set_cons_zero, List.set_cons_succ]
  refine qw_run (v := .string (t.extract 0 i ++ m)) (by rfl) ?_ ?_
  · (intro w1 hC; obtain ⟨c1, c2⟩ := hC; clear HK; go_simp; first | done | omega | (intro hx; omega) | (simp; done) | (simp [*]; done) | (simp; omega))
  simp only [Act.put, List.setIfInBounds_toArray, List.set_cons_zero, List.set_cons_succ]
  refine qw_run (v := .string t) (by rfl) ?_ ?_
  · (intro w1 hC; obtain ⟨c1, c2⟩ := hC; go_simp; first | done | (simp; done) | (simp [*]; done) | omega | (simp; omega) | (rw [IntKind.wrap_i64]; omega) | rfl)
  simp only [Act.put, List.setIfInBounds_toArray, List.set_cons_zero, List.set_cons_succ]
  refine qw_run (v := .int .i64 (i : Int)) (by rfl) ?_ ?_
  · (intro w1 hC; obtain ⟨c1, c2⟩ := hC; go_simp; first | done | (simp; done) | (simp [*]; done) | omega | (simp; omega) | (rw [IntKind.wrap_i64]; omega) | rfl)
  simp only [Act.put, List.setIfInBounds_toArray, List.set_cons_zero, List.set_cons_succ]
  refine qw_run (v := .string (t.extract i t.size)) (by rfl) ?_ ?_
  · (intro w1 hC; obtain ⟨c1, c2⟩ := hC; clear HK; go_simp; first | done | omega | (intro hx; omega) | (simp; done) | (simp [*]; done) | (simp; omega))
  simp only [Act.put, List.setIfInBounds_toArray, List.set_cons_zero, List.set_cons_succ]
  refine qw_run (v := .string (t.extract 0 i ++ m ++ t.extract i t.size)) (by rfl) ?_ ?_
  · (intro w1 hC; obtain ⟨c1, c2⟩ := hC; clear HK; go_simp; first | done | omega | (intro hx; omega) | (simp; done) | (simp [*]; done) | (simp; omega))
  simp only [Act.put, List.setIfInBounds_toArray, List.set_cons_zero, List.set_cons_succ]
  refine qw_call (v := .bool true) (f := 4) (args := #[.string (t.extract 0 i ++ m ++ t.extract i t.size)]) (by rfl) ?_ ?_ ?_
  · (intro w1 hC; clear hC; go_simp)
  · exact fun w1 hC => (HK (t.extract 0 i ++ m ++ t.extract i t.size) w1 hC.2).mono fun e w' ⟨he, hb⟩ => ⟨he, ⟨hC.1.below hb, keepb hb hC.2⟩⟩
  simp only [Act.put, List.setIfInBounds_toArray, List.set_cons_zero, List.set_cons_succ]
  refine qw_run (v := .bool true) (by rfl) ?_ ?_
  · (intro w1 hC; obtain ⟨c1, c2⟩ := hC; go_simp; first | done | (simp; done) | (simp [*]; done) | omega | (simp; omega) | (rw [IntKind.wrap_i64]; omega) | rfl)
  simp only [Act.put, List.setIfInBounds_toArray, List.set_cons_zero, List.set_cons_succ]
  refine qw_run (v := .bool true) (by rfl) ?_ ?_
  · (intro w1 hC; obtain ⟨c1, c2⟩ := hC; go_simp; first | done | (simp; done) | (simp [*]; done) | omega | (simp; omega) | (rw [IntKind.wrap_i64]; omega) | rfl)
  simp only [Act.put, List.setIfInBounds_toArray, List.set_cons_zero, List.set_cons_succ]
  refine qw_nil ?_
  intro w9 hC
  have HB9 := hid13 hC.2
  clear hC HK
  go_wp2
  exact bodyPost_ret (v := .bool true) (by simp [results, Tryd.results5, go_sem]) rfl ⟨rfl, HB9.out⟩
end Go.Proofs.YtologchdnjnadaaDoor
/-
  How rows of numbers that are handed in read as data.
-/
namespace Go.Proofs.YtologchdnjnadaaDoor
open Go.ChangeShapes Go.WideShapes Go.ChangeAt Go.RowKit Go.Joins
set_option linter.unusedSimpArgs false
set_option linter.unusedVariables false

theorem Tryd.laidOut : laidOutB Tryd.prog = true := by kernel_rfl
theorem reach13 : reachBytes ≤ 140737488351232 := by decide
section
variable {H : Type} {enc : TypeId × Value → H} {w : World} {spare : Nat → Bool} {held : Bool}
theorem RwX.map13 {α β : Type} {f : α → Value} {g : β → Value} (h : α → β) {v : Value} {l : List α} (hr : RwX f w v l) (he : ∀ x ∈ l, f x = g (h x)) : RwX g w v (l.map h) := by
  obtain ⟨ao, c, e, hc, hr⟩ := hr
  refine ⟨ao, c, by rw [List.length_map]; exact e, by rw [List.length_map]; exact hc, ?_⟩
  rcases hr with hr | ⟨b, off, e, hr⟩
  · exact .inl (by rw [hr]; rfl)
  · refine .inr ⟨b, off, e, fun j x hj => ?_⟩
    rw [List.getElem?_map] at hj
    cases hx : l[j]? with
    | none => rw [hx] at hj; cases hj
    | some y =>
      rw [hx] at hj
      simp only [Option.map_some, Option.some.injEq] at hj
      rw [hr j y hx, he y (List.mem_of_getElem? hx), hj]
set_option maxRecDepth 100000 in
theorem open_ints13 {t e : TypeId} {k : IntKind} (ht : Tryd.prog.underlying t = some (.slice e)) (he : Tryd.prog.underlying e = some (.int k)) (hce : Tryd.prog.cellsOf e = 1) {r : Reach} {b0 : Nat} {v : Value} {d : DataW H} {p : List MemPlace} (hv : Value.okWide Tryd.prog w r b0 t v) (h : DataW.Trod enc Tryd.prog w 0 (fun _ => true) held t v d p) :
    ∃ l : List Int, RowA w 1 v l.length (l.map fun a => .int k a) ∧ RwX (fun a => Value.int k a) w v l ∧ (∀ a ∈ l, (Lit.int k a).wf = true) ∧ (l = [] ∨ ∃ el sp, d = .slice el sp ∧ el.length = l.length) := by
  obtain ⟨a0, len, cap, rfl⟩ := okWide_slice ht hv
  obtain ⟨fuel, hf⟩ := h
  rcases Deep.open_slice ht hf with ⟨hcs, hx⟩ | ⟨a, len', cap', m, n, D, Pl, hcs, _, hl, hm, hmm, hx, hel⟩
  · simp [Value.cells] at hcs
    obtain ⟨rfl, rfl, rfl⟩ := hcs
    exact ⟨[], ⟨rfl, none, 0, rfl, Nat.le_refl _, .inl ⟨rfl, rfl, rfl⟩⟩, ⟨none, 0, rfl, Nat.le_refl _, .inl rfl⟩, (fun _ h => by cases h), .inl rfl⟩
  · simp [Value.cells] at hcs
    obtain ⟨rfl, rfl, rfl⟩ := hcs
    simp at hmm
    subst hmm
    rw [hce] at hel
    obtain ⟨f, hf⟩ := Deep.choose_lt (α := Int) (n := len) (p := fun i x => w.cell? (a.add i) = some (.int k x) ∧ (Lit.int k x).wf = true) (fun i hi => by
      obtain ⟨cs', h1, h2⟩ := hel i (by omega)
      obtain ⟨_, hlen, hc⟩ := World.cells?_some h1
      match cs', hlen with
      | [c0], _ =>
        obtain ⟨x, ex, -, wx⟩ := DataW.trod_int he h2
        simp at ex
        subst ex
        refine ⟨x, ?_, wx⟩
        have := hc 0 (by omega)
        simpa [Addr.add] using this)
    have hlen : ((List.range len).map f).length = len := by simp
    have hcells : ∀ j x, ((List.range len).map f)[j]? = some x → w.cell? (a.add j) = some (.int k x) := by
      intro j x hj
      have hlt : j < len := by have := (List.getElem?_eq_some_iff.1 hj).1; simpa using this
      rw [List.getElem?_map, List.getElem?_range hlt] at hj
      simp only [Option.map_some, Option.some.injEq] at hj
      rw [← hj]; exact (hf j hlt).1
    refine ⟨(List.range len).map f, ⟨by simp, some a, m, by rw [hlen], by rw [hlen]; exact hl, .inr ⟨a, rfl, fun j u hj => ?_⟩⟩, ⟨some a, m, by rw [hlen], by rw [hlen]; exact hl, ?_⟩, ?_, ?_⟩
    · rw [List.getElem?_map] at hj
      cases hx : ((List.range len).map f)[j]? with
      | none => rw [hx] at hj; cases hj
      | some y =>
        rw [hx] at hj
        simp only [Option.map_some, Option.some.injEq] at hj
        rw [← hj]; exact hcells j y hx
    · by_cases hz : len = 0
      · subst hz
        exact .inl (by simp)
      · have h00 := (hf 0 (by omega)).1
        have ea : a = ⟨a.block, a.off, none⟩ := by
          have : a.add 0 = a := by simp [Addr.add]
          rw [this] at h00
          exact spot9 h00
        refine .inr ⟨a.block, a.off, by rw [← ea], fun j u hj => ?_⟩
        have := hcells j u hj
        rw [ea, addA] at this
        exact this
    · intro x hx
      simp only [List.mem_map, List.mem_range] at hx
      obtain ⟨i, hi, rfl⟩ := hx
      exact (hf i hi).2
    · simp only [Prod.mk.injEq] at hx
      exact .inr ⟨_, _, hx.1, by simp⟩
end
end Go.Proofs.YtologchdnjnadaaDoor
