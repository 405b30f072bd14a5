/-
  Part 7 of the proof: 4 texts, one behind the other.
-/
import Derived.Test.YtmeaikmmhgmgnaaGreatPart6
import Derived.Deep.Onto
import Derived.Test.YtmeaikmmhgmgnaaGreatPart3
import Derived.Test.YtmeaikmmhgmgnaaGreatShelf
import Derived.Shelf.Strings.Search1
namespace Go.Proofs.YtmeaikmmhgmgnaaGreat
open Go.RowKit
set_option linter.unusedSimpArgs false
set_option linter.unusedVariables false

theorem dotG_bd : ∀ (l : List ByteArray) (v u : Int), 0 ≤ v → dotG l v = some u → 0 ≤ u ∧ u < (v + 1) * 256 ^ l.length := by
  intro l
  induction l with
  | nil => intro v u h e; simp [dotG] at e; subst e; simp; omega
  | cons p l ih =>
    intro v u h e
    unfold dotG at e
    split at e
    · cases e
    · have ob := octV_bd p
      have := ih (256 * v + octV p) u (by omega) e
      refine ⟨this.1, ?_⟩
      have h2 : (256 * v + octV p + 1) * 256 ^ l.length ≤ ((v + 1) * 256) * 256 ^ l.length := Int.mul_le_mul_of_nonneg_right (by omega) (Int.pow_nonneg (by omega))
      rw [List.length_cons, Int.pow_succ, Int.mul_comm (256 ^ l.length), ← Int.mul_assoc]
      omega
theorem dotO_bd (t : ByteArray) (u : Int) (h : dotO t = some u) : 0 ≤ u ∧ u < 4294967296 := by
  unfold dotO at h
  split at h
  · rename_i hl
    have := dotG_bd _ 0 u (by omega) h
    rw [hl] at this
    exact ⟨this.1, by have := this.2; simpa using this⟩
  · cases h
theorem and16 (v : Int) (h0 : 0 ≤ v) (h1 : v < 4294967296) : bits .and .u64 v 65535 = v % 65536 := by
  obtain ⟨n, rfl⟩ := Int.eq_ofNat_of_zero_le h0
  have e1 : (n : Int) = ((BitVec.ofNat 64 n).toNat : Int) := by simp [BitVec.toNat_ofNat]; omega
  have e2 : (65535 : Int) = ((BitVec.ofNat 64 65535).toNat : Int) := by decide
  rw [e1, e2, bits64and _ _ _ rfl, BitVec.toNat_and, BitVec.toNat_ofNat, BitVec.toNat_ofNat, Nat.mod_eq_of_lt (by omega), show 65535 % 2 ^ 64 = 2 ^ 16 - 1 by decide, Nat.and_two_pow_sub_one_eq_mod]
  rfl
def gsG (last : Bool) : List ByteArray → List Int → Option (List Int)
  | [], acc => some acc
  | q :: rest, acc =>
    if last = true ∧ rest = [] ∧ (dotO q).isSome = true then some (acc ++ [(dotO q).getD 0 / 65536, (dotO q).getD 0 % 65536])
    else if grV q < 0 then none else gsG last rest (acc ++ [grV q])
def gsO (t : ByteArray) (last : Bool) : Option (List Int) := if t.size = 0 then some [] else gsG last (spl t 58 t.size 0 0) []
def ints (l : List Int) : List Value := l.map (Value.int .i64)
theorem spl_len (t : ByteArray) (c : Int) : ∀ f p i, 1 ≤ (spl t c f p i).length ∧ (spl t c f p i).length ≤ f + 1 := by
  intro f
  induction f with
  | zero => intro p i; exact ⟨by show 1 ≤ 1; omega, by show 1 ≤ 1; omega⟩
  | succ f ih =>
    intro p i
    unfold spl
    split
    · have := ih (i + 1) (i + 1)
      simp only [List.length_cons]; omega
    · have := ih p (i + 1)
      omega
theorem Tryz.infoI : (Tryz.prog.info? 3).map (fun i => (i.zero, i.size, i.bytes)) = some (some (.int .i64 0), 1, 8) := by kernel_rfl
theorem oneI (n : Int) : ∀ u ∈ [Value.int .i64 n], u.oneCell' = true := by
  intro u hu; simp at hu; subst hu; rfl
theorem twoI (n m : Int) : ∀ u ∈ [Value.int .i64 n, Value.int .i64 m], u.oneCell' = true := by
  intro u hu; simp at hu; rcases hu with rfl | rfl <;> rfl
theorem newsT (W : World) (a b : Value) (t : TypeId) : ∀ j u, [a, b][j]? = some u → (W.alloc (.cells #[a, b] t)).cell? ((⟨W.heap.size, 0, none⟩ : Addr).add j) = some u := by
  intro j u hj
  match j, hj with
  | 0, hj => simp at hj; subst hj; simp [Addr.add, go_sem]
  | 1, hj => simp at hj; subst hj; simp [Addr.add, go_sem]

theorem empty_is (t : ByteArray) : t.toList.isEmpty = decide (t.size = 0) := by
  rw [Lib.toList_data, Lib.size_eq]
  cases t.data.toList <;> simp

set_option maxHeartbeats 8000000 in
set_option maxRecDepth 20000 in
theorem groups_any (t : ByteArray) (last : Bool) (w : World) (hs : t.size ≤ 1000) :
    Calls Tryz.prog 96 #[.string t, .bool last] w fun e w' => ((gsO t last = none ∧ e = .returned (.tuple #[.slice none 0 0, .bool false])) ∨ (∃ xs ao cap, gsO t last = some xs ∧ e = .returned (.tuple #[.slice ao xs.length cap, .bool true]) ∧ w'.ownsRow w.heap.size 3 1 (.slice ao xs.length cap) xs.length (ints xs))) ∧ Below w.heap.size w w' := by
  obtain ⟨i0, hi, hz0, hz1, hz2⟩ := info_parts Tryz.infoI
  by_cases h0 : t.size = 0
  · have he : t.toList.isEmpty = true := by rw [empty_is]; simp [h0]
    have HG : Hid (gsO t last = some []) := if_pos h0
    go_enter Tryz.func96, Tryz.ntmps96
    go_wp2
    go_ret2
    exact ⟨Or.inr ⟨[], none, 0, HG.out, rfl, World.ownsRow_nil _ _ _ _⟩, Below.refl _ _⟩
  have he : t.toList.isEmpty = false := by rw [empty_is]; simp [h0]
  have KS := fun w => split_any t 58 w hs (by omega) (by omega)
  have hsz := spl_size t 58 t.size 0 0
  have hln := spl_len t 58 t.size 0 0
  have HG : Hid (gsO t last = gsG last (spl t 58 t.size 0 0) []) := if_neg h0
  generalize spl t 58 t.size 0 0 = l at *
  go_enter Tryz.func96, Tryz.ntmps96
  go_wp2_with fail
  refine (KS _).mono ?_
  rintro e w1 ⟨⟨g, cap, rfl, hown⟩, hB⟩
  clear KS
  have hrow : Hid (∀ k (hk : k < l.length), w1.cell? ⟨g, k, none⟩ = some (.string l[k])) := fun k hk => row_get hown rfl k hk
  have hg := (hown.lt g rfl).2
  have hB1 := hB.size
  clear hown
  go_wp2
  go_loopw [6, 8] (fun a b wr => ∃ (k : Nat) (acc : List Int) (ao : Option Addr) (cp : Nat), a = .slice ao acc.length cp ∧ b = .int .i64 k ∧ k ≤ l.length ∧ acc.length ≤ k ∧ Hid (gsG last (l.drop k) acc = gsG last l []) ∧ wr.ownsRow w1.heap.size 3 1 (.slice ao acc.length cp) acc.length (ints acc) ∧ Hid (∀ k (hk : k < l.length), wr.cell? ⟨g, k, none⟩ = some (.string l[k])) ∧ Below w.heap.size w wr ∧ w1.heap.size ≤ wr.heap.size) (fun _ b _ => l.length - (intOf b).toNat)
  case atStart => exact ⟨0, [], none, 0, rfl, rfl, by omega, by simp, rfl, World.ownsRow_nil _ _ _ _, hrow, hB, Nat.le_refl _⟩
  case round =>
    clear hrow hB
    obtain ⟨k, acc, ao, cp, rfl, rfl, hk, ha, HR, hown, hrow, hB, hw1⟩ := hrel
    have hBs := hB.size
    by_cases hlt : k < l.length
    · have hk2 : (k : Int) < (l.length : Int) := by omega
      have hcell := hrow.out k hlt
      have HD : Hid (l.drop k = l[k] :: l.drop (k + 1)) := List.drop_eq_getElem_cons hlt
      have hqs : l[k].size ≤ 1000 := by have := hsz l[k] (List.getElem_mem hlt); omega
      have HL : Hid (l.drop (k + 1) = [] ↔ k + 1 = l.length) := by
        show _ ↔ _
        rw [List.drop_eq_nil_iff]; omega
      have HS : Hid (gsG last (l.drop k) acc = if last = true ∧ l.drop (k + 1) = [] ∧ (dotO l[k]).isSome = true then some (acc ++ [(dotO l[k]).getD 0 / 65536, (dotO l[k]).getD 0 % 65536]) else if grV l[k] < 0 then none else gsG last (l.drop (k + 1)) (acc ++ [grV l[k]])) := by
        show _ = _
        rw [HD.out]; rfl
      have KDt := fun w => dotted_any l[k] w hqs
      have KGr := fun w => rgroup_any l[k] w (by unfold maxLen; omega)
      have HDB : Hid (∀ u, dotO l[k] = some u → 0 ≤ u ∧ u < 4294967296) := dotO_bd l[k]
      have HQ : Hid (∀ h : k < l.length, l[k] = l[k]'h) := fun _ => rfl
      obtain ⟨q, hq⟩ : ∃ q, l[k] = q := ⟨_, rfl⟩
      rw [hq] at hcell hqs HS KDt KGr HDB
      clear HD HQ
      have h63 : acc.length + 1 ≤ maxLen := by unfold maxLen; omega
      have h47 : (acc.length + 1) * 8 ≤ 140737488355328 := by omega
      have h632 : acc.length + 2 ≤ maxLen := by unfold maxLen; omega
      have h472 : (acc.length + 2) * 8 ≤ 140737488355328 := by omega
      by_cases hla : last = true ∧ k + 1 = l.length
      · obtain ⟨rfl, hkl⟩ := hla
        have hkl2 : (l.length : Int) - 1 = (k : Int) := by omega
        have hu : IntKind.i64.wrap (k : Int) = (k : Int) := by rw [IntKind.wrap_i64]; omega
        cases hdo : dotO q with
        | none =>
          have HSG : Hid (gsG true (l.drop k) acc = if grV q < 0 then none else gsG true (l.drop (k + 1)) (acc ++ [grV q])) := by
            show _ = _
            rw [HS.out, hdo, if_neg (by simp)]
          rw [hdo] at KDt
          clear HS HDB hdo HL
          generalize grV q = n at *
          go_wp2_with fail
          refine (KDt _).mono ?_
          rintro e w2 ⟨rfl, hb2⟩
          clear KDt hcell
          have hown := rowBelow hb2 hown
          have hrow : Hid (∀ k (hk : k < l.length), w2.cell? ⟨g, k, none⟩ = some (.string l[k])) := fun k hk => keepc hb2 (hrow.out k hk)
          have hcell := hrow.out k hlt
          have hw1 : w1.heap.size ≤ w2.heap.size := Nat.le_trans hw1 hb2.size
          have hB := keepb hb2 hB
          have hBs := hB.size
          clear hb2
          by_cases hn : n < 0
          · have HF : Hid (gsO t true = none) := by show _ = _; rw [HG.out, ← HR.out, HSG.out, if_pos hn]
            clear HSG HR
            go_wp2_with fail
            refine (KGr _).mono ?_
            rintro e w3 ⟨rfl, rfl⟩
            clear KGr
            go_wp2
            go_ret2
            first | exact ⟨Or.inl ⟨HF.out, rfl⟩, hB⟩ | exact ⟨Or.inl HF.out, hB⟩
          · have HF : Hid (gsG true (l.drop (k + 1)) (acc ++ [n]) = gsG true l []) := by show _ = _; rw [← HR.out, HSG.out, if_neg hn]
            clear HSG HR
            go_wp2_with fail
            refine (KGr _).mono ?_
            rintro e w3 ⟨rfl, hw3⟩
            rw [hw3]; clear hw3 KGr
            go_wp2_with (first | (at_builtin; refine wpList_append_lies _ rfl _ _ 89 rfl w1.heap.size 3 i0 (.int .i64 0) 1 8 Tryz.underlying89 hi hz0 hz1 hz2 rfl (by decide) _ _ _ rfl (hown.alloc _) ⟨w2.heap.size, 0, none⟩ 1 1 [.int .i64 n] rfl rfl (newsS _ _ _) (oneI _) (by decide) h63 h47 (by simp; omega) _ rfl ?_; intro g4 cap4 w4 hown4 hgrow hat hlt4))
            have hne : some g ≠ (Value.slice ao acc.length cp).ownBlock := fun e => by have := (hown.lt g e.symm).1; omega
            have kB4 : Below w.heap.size w w4 := (hB.alloc hBs _).grown hgrow (by simp; omega) (fun q hq => by have := (hown.lt q hq).1; omega)
            have hrow4 : Hid (∀ k (hk : k < l.length), w4.cell? ⟨g, k, none⟩ = some (.string l[k])) := fun k hk => hgrow.cell (keepc (bl1 _ _) (hrow.out k hk)) hne
            have hs4 : w1.heap.size ≤ w4.heap.size := by have := hgrow.size; simp at this; omega
            clear hgrow hat hne
            go_roundw
            case rel => exact ⟨k + 1, acc ++ [n], some ⟨g4, 0, none⟩, cap4, by simp, by go_num, by omega, by simp; omega, HF, by simpa [ints] using hown4, hrow4, kB4, hs4⟩
            case measure => simp [intOf]; omega
        | some v =>
          obtain ⟨v0, v1⟩ := HDB.out v hdo
          have HF : Hid (gsO t true = some (acc ++ [v / 65536, v % 65536])) := by
            show _ = _
            rw [HG.out, ← HR.out, HS.out, hdo, if_pos ⟨rfl, HL.out.mpr hkl, rfl⟩]; rfl
          have KD2 : ∀ w, Calls Tryz.prog 94 #[.string q] w fun e w' => e = .returned (.tuple #[.int .u64 v, .bool true]) ∧ Below w.heap.size w w' := by
            rw [hdo] at KDt; exact KDt
          have hand := and16 v v0 v1
          clear HS HDB hdo HL HR KGr KDt
          go_wp2_with fail
          refine (KD2 _).mono ?_
          rintro e w2 ⟨rfl, hb2⟩
          clear KD2 hcell hrow
          have hown := rowBelow hb2 hown
          have hw1 : w1.heap.size ≤ w2.heap.size := Nat.le_trans hw1 hb2.size
          have hB := keepb hb2 hB
          have hBs := hB.size
          clear hb2
          go_wp2_with (first | (at_builtin; refine wpList_append_lies _ rfl _ _ 89 rfl w1.heap.size 3 i0 (.int .i64 0) 1 8 Tryz.underlying89 hi hz0 hz1 hz2 rfl (by decide) _ _ _ rfl (hown.alloc _) ⟨w2.heap.size, 0, none⟩ 2 2 [.int .i64 (v / 65536), .int .i64 (v % 65536)] rfl rfl (newsT _ _ _ _) (twoI _ _) (by decide) h632 h472 (by simp; omega) _ rfl ?_; intro g4 cap4 w4 hown4 hgrow hat hlt4))
          have kB4 : Below w.heap.size w w4 := (hB.alloc hBs _).grown hgrow (by simp; omega) (fun q hq => by have := (hown.lt q hq).1; omega)
          clear hgrow hat
          go_ret2
          refine ⟨Or.inr ?_, kB4⟩
          have hl2 : (acc ++ [v / 65536, v % 65536]).length = acc.length + 2 := by simp
          refine ⟨acc ++ [v / 65536, v % 65536], some ⟨g4, 0, none⟩, cap4, HF.out, by rw [hl2]; rfl, ?_⟩
          rw [hl2]
          refine World.ownsRow.mono (base := w1.heap.size) ?_ hB1
          simpa [ints] using hown4
      · have HSG : Hid (gsG last (l.drop k) acc = if grV q < 0 then none else gsG last (l.drop (k + 1)) (acc ++ [grV q])) := by
          show _ = _
          rw [HS.out, if_neg]
          rintro ⟨a1, a2, -⟩
          exact hla ⟨a1, HL.out.mp a2⟩
        have hkl2 : last = true → ¬ (k : Int) = (l.length : Int) - 1 := fun a1 e => hla ⟨a1, by omega⟩
        have hu : IntKind.i64.wrap ((l.length : Int) - 1) = (l.length : Int) - 1 := by rw [IntKind.wrap_i64]; omega
        clear HS HDB HL KDt hla
        generalize grV q = n at *
        cases last
        · clear hkl2
          by_cases hn : n < 0
          · have HF : Hid (gsO t false = none) := by show _ = _; rw [HG.out, ← HR.out, HSG.out, if_pos hn]
            clear HSG HR
            go_wp2_with fail
            refine (KGr _).mono ?_
            rintro e w3 ⟨rfl, rfl⟩
            clear KGr
            go_wp2
            go_ret2
            first | exact ⟨Or.inl ⟨HF.out, rfl⟩, hB⟩ | exact ⟨Or.inl HF.out, hB⟩
          · have HF : Hid (gsG false (l.drop (k + 1)) (acc ++ [n]) = gsG false l []) := by show _ = _; rw [← HR.out, HSG.out, if_neg hn]
            clear HSG HR
            go_wp2_with fail
            refine (KGr _).mono ?_
            rintro e w3 ⟨rfl, hw3⟩
            rw [hw3]; clear hw3 KGr
            go_wp2_with (first | (at_builtin; refine wpList_append_lies _ rfl _ _ 89 rfl w1.heap.size 3 i0 (.int .i64 0) 1 8 Tryz.underlying89 hi hz0 hz1 hz2 rfl (by decide) _ _ _ rfl (hown.alloc _) ⟨wr.heap.size, 0, none⟩ 1 1 [.int .i64 n] rfl rfl (newsS _ _ _) (oneI _) (by decide) h63 h47 (by simp; omega) _ rfl ?_; intro g4 cap4 w4 hown4 hgrow hat hlt4))
            have hne : some g ≠ (Value.slice ao acc.length cp).ownBlock := fun e => by have := (hown.lt g e.symm).1; omega
            have kB4 : Below w.heap.size w w4 := (hB.alloc hBs _).grown hgrow (by simp; omega) (fun q hq => by have := (hown.lt q hq).1; omega)
            have hrow4 : Hid (∀ k (hk : k < l.length), w4.cell? ⟨g, k, none⟩ = some (.string l[k])) := fun k hk => hgrow.cell (keepc (bl1 _ _) (hrow.out k hk)) hne
            have hs4 : w1.heap.size ≤ w4.heap.size := by have := hgrow.size; simp at this; omega
            clear hgrow hat hne
            go_roundw
            case rel => exact ⟨k + 1, acc ++ [n], some ⟨g4, 0, none⟩, cap4, by simp, by go_num, by omega, by simp; omega, HF, by simpa [ints] using hown4, hrow4, kB4, hs4⟩
            case measure => simp [intOf]; omega
        · have hkl3 : ((k : Int) == (l.length : Int) - 1) = false := by simp; exact hkl2 rfl
          clear hkl2
          by_cases hn : n < 0
          · have HF : Hid (gsO t true = none) := by show _ = _; rw [HG.out, ← HR.out, HSG.out, if_pos hn]
            clear HSG HR
            go_wp2_with fail
            refine (KGr _).mono ?_
            rintro e w3 ⟨rfl, rfl⟩
            clear KGr
            go_wp2
            go_ret2
            first | exact ⟨Or.inl ⟨HF.out, rfl⟩, hB⟩ | exact ⟨Or.inl HF.out, hB⟩
          · have HF : Hid (gsG true (l.drop (k + 1)) (acc ++ [n]) = gsG true l []) := by show _ = _; rw [← HR.out, HSG.out, if_neg hn]
            clear HSG HR
            go_wp2_with fail
            refine (KGr _).mono ?_
            rintro e w3 ⟨rfl, hw3⟩
            rw [hw3]; clear hw3 KGr
            go_wp2_with (first | (at_builtin; refine wpList_append_lies _ rfl _ _ 89 rfl w1.heap.size 3 i0 (.int .i64 0) 1 8 Tryz.underlying89 hi hz0 hz1 hz2 rfl (by decide) _ _ _ rfl (hown.alloc _) ⟨wr.heap.size, 0, none⟩ 1 1 [.int .i64 n] rfl rfl (newsS _ _ _) (oneI _) (by decide) h63 h47 (by simp; omega) _ rfl ?_; intro g4 cap4 w4 hown4 hgrow hat hlt4))
            have hne : some g ≠ (Value.slice ao acc.length cp).ownBlock := fun e => by have := (hown.lt g e.symm).1; omega
            have kB4 : Below w.heap.size w w4 := (hB.alloc hBs _).grown hgrow (by simp; omega) (fun q hq => by have := (hown.lt q hq).1; omega)
            have hrow4 : Hid (∀ k (hk : k < l.length), w4.cell? ⟨g, k, none⟩ = some (.string l[k])) := fun k hk => hgrow.cell (keepc (bl1 _ _) (hrow.out k hk)) hne
            have hs4 : w1.heap.size ≤ w4.heap.size := by have := hgrow.size; simp at this; omega
            clear hgrow hat hne
            go_roundw
            case rel => exact ⟨k + 1, acc ++ [n], some ⟨g4, 0, none⟩, cap4, by simp, by go_num, by omega, by simp; omega, HF, by simpa [ints] using hown4, hrow4, kB4, hs4⟩
            case measure => simp [intOf]; omega
    · have hk2 : ¬ (k : Int) < (l.length : Int) := by omega
      have HF : Hid (gsO t last = some acc) := by
        show _ = _
        rw [HG.out, ← HR.out, List.drop_of_length_le (by omega)]; rfl
      clear HR
      go_wp2
      go_ret2
      refine ⟨Or.inr ?_, hB⟩
      have hmono := World.ownsRow.mono hown hB1
      first | exact ⟨acc, ao, cp, HF.out, rfl, hmono⟩ | exact ⟨acc, HF.out, ao, cp, rfl, hmono⟩ | exact ⟨acc, HF.out, ao, cp, ⟨rfl, rfl, rfl⟩, hmono⟩
end Go.Proofs.YtmeaikmmhgmgnaaGreat
namespace Go.Proofs.YtmeaikmmhgmgnaaGreat
open Go.RowKit
set_option linter.unusedSimpArgs false
set_option linter.unusedVariables false

def ixS (s : ByteArray) : Int := Lib.indexByte s.data.toList 47
theorem indexByte_bd (c : UInt8) : ∀ l : List UInt8, Lib.indexByte l c = -1 ∨ (0 ≤ Lib.indexByte l c ∧ Lib.indexByte l c < l.length) := by
  intro l
  induction l with
  | nil => exact Or.inl rfl
  | cons b l ih =>
    unfold Lib.indexByte
    by_cases h : (b == c) = true
    · rw [if_pos h]; right; simp
    · rw [if_neg h]
      by_cases h1 : (Lib.indexByte l c == -1) = true
      · rw [if_pos h1]; left; rfl
      · rw [if_neg h1]
        rcases ih with e | e
        · simp [e] at h1
        · right; simp; omega
theorem ixS_bd (s : ByteArray) : ixS s = -1 ∨ (0 ≤ ixS s ∧ ixS s < s.size) := indexByte_bd 47 s.data.toList
theorem ixB_any (s : ByteArray) (w : World) :
    Calls Tryz.prog 91 #[.string s, .int .u8 47] w fun e w' => e = .returned (.int .i64 (ixS s)) ∧ w' = w :=
  Any.stringslite_IndexByte Tryz.lays217 s 47 w

def slash : ByteArray := ⟨#[47]⟩
set_option maxHeartbeats 1000000 in
set_option maxRecDepth 20000 in
theorem index1_any (s : ByteArray) (w : World) :
    Calls Tryz.prog 116 #[.string s, .string ⟨#[47]⟩] w fun e w' => e = .returned (.int .i64 (ixS s)) ∧ w' = w := by
  have KI := fun w => ixB_any s w
  cases hb : ([47] == s.toList)
  · go_enter Tryz.func116, Tryz.ntmps116
    go_wp2_with fail
    refine (KI _).mono ?_
    rintro e w1 ⟨rfl, rfl⟩
    go_wp2
    go_ret
    exact ⟨rfl, rfl⟩
  · have h : s = ⟨#[47]⟩ := by
      have h1 := eq_of_beq hb
      apply ByteArray.ext
      apply Array.ext'
      rw [ByteArray.toList_eq] at h1
      exact h1.symm
    subst h
    have hv : ixS ⟨#[47]⟩ = 0 := by decide
    rw [hv]
    clear hb KI hv
    go_enter Tryz.func116, Tryz.ntmps116
    go_wp2
    go_ret
    exact ⟨rfl, rfl⟩

theorem bdrewN {n : Nat} {w W : World} (h : Below n w W) (k : Nat) : Below n w (W.drewN k) := ⟨h.os, h.tape, h.output, h.size, h.block⟩
def headS (s : ByteArray) : ByteArray := if ixS s = -1 then s else s.extract 0 (ixS s).toNat
def tailS (s : ByteArray) : ByteArray := if ixS s = -1 then ⟨#[]⟩ else s.extract ((ixS s).toNat + 1) s.size
set_option maxHeartbeats 1000000 in
theorem lcut_any (s : ByteArray) (w : World) (hs : s.size ≤ maxLen) :
    Calls Tryz.prog 106 #[.string s, .string ⟨#[47]⟩] w fun e w' => e = .returned (.tuple #[.string (headS s), .string (tailS s), .bool (decide (ixS s ≠ -1))]) ∧ Below w.heap.size w w' := by
  have KI := fun w => index1_any s w
  have bd := ixS_bd s
  unfold maxLen at hs
  unfold headS tailS
  generalize ixS s = i at *
  by_cases h : i = -1
  · subst h
    rw [if_pos rfl, if_pos rfl]
    go_enter Tryz.func106, Tryz.ntmps106
    go_wp2_with fail
    refine (KI _).mono ?_
    rintro e w1 ⟨rfl, rfl⟩
    go_wp2
    exact bodyPost_ret (v := .tuple #[.string s, .string ⟨#[]⟩, .bool false]) (by simp [results, Tryz.results106, go_sem]) rfl ⟨by simp, Below.refl _ _⟩
  · obtain ⟨k, rfl⟩ : ∃ k : Nat, i = k := ⟨i.toNat, by omega⟩
    rw [if_neg h, if_neg h]
    have hk : k < s.size := by omega
    have hu : IntKind.i64.wrap ((k : Int) + 1) = (k : Int) + 1 := by rw [IntKind.wrap_i64]; omega
    have hk0 : (0 : Int) ≤ (k : Int) := by omega
    have hk1 : (k : Int) ≤ (s.size : Int) := by omega
    have hk2 : (k : Int) + 1 ≤ (s.size : Int) := by omega
    have hk3 : (0 : Int) ≤ (k : Int) + 1 := by omega
    have ht : ((k : Int) + 1).toNat = k + 1 := by omega
    go_enter Tryz.func106, Tryz.ntmps106
    go_wp2_with fail
    refine (KI _).mono ?_
    rintro e w1 ⟨rfl, rfl⟩
    go_wp2
    go_quiet (fail)
    go_wp2
    exact bodyPost_ret (v := .tuple #[.string (s.extract 0 k), .string (s.extract (k + 1) s.size), .bool true]) (by simp [results, Tryz.results106, go_sem]) rfl ⟨by simp, bdrewN (Below.refl _ _) _⟩
theorem scut_any (s : ByteArray) (w : World) (hs : s.size ≤ maxLen) :
    Calls Tryz.prog 86 #[.string s, .string ⟨#[47]⟩] w fun e w' => e = .returned (.tuple #[.string (headS s), .string (tailS s), .bool (decide (ixS s ≠ -1))]) ∧ Below w.heap.size w w' := by
  go_enter Tryz.func86, Tryz.ntmps86
  go_wp2_with fail
  refine (lcut_any s _ hs).mono ?_
  rintro e w1 ⟨rfl, hb1⟩
  go_wp2
  exact bodyPost_ret (v := .tuple #[.string (headS s), .string (tailS s), .bool (decide (ixS s ≠ -1))]) (by simp [results, Tryz.results86, go_sem]) rfl ⟨rfl, hb1⟩

def lenR (t : ByteArray) : Nat → Nat → Int → Option Int
  | 0, _, n => some n
  | f + 1, k, n => if byteAt t k < 48 ∨ 57 < byteAt t k then none else lenR t f (k + 1) (10 * n + (byteAt t k - 48))
def lenO (t : ByteArray) : Option Int := if t.size = 0 ∨ 3 < t.size ∨ (byteAt t 0 = 48 ∧ 1 < t.size) then none else lenR t t.size 0 0
def lenV (t : ByteArray) : Int := (lenO t).getD 0
def lenB (t : ByteArray) : Bool := (lenO t).isSome
set_option maxHeartbeats 1000000 in
theorem plength_any (t : ByteArray) (w : World) (hs : t.size ≤ maxLen) :
    Calls Tryz.prog 88 #[.string t] w fun e w' => e = .returned (.tuple #[.int .i64 (lenV t), .bool (lenB t)]) ∧ w' = w := by
  unfold maxLen at hs
  by_cases hz : t.size = 0
  · have he : t.toList.isEmpty = true := by rw [empty_is]; simp [hz]
    have HF : Hid (lenV t = 0 ∧ lenB t = false) := by
      show _ ∧ _
      unfold lenV lenB lenO; rw [if_pos (Or.inl hz)]; exact ⟨rfl, rfl⟩
    go_enter Tryz.func88, Tryz.ntmps88
    go_wp2
    go_ret2
    exact ⟨by rw [HF.out.1, HF.out.2]; rfl, rfl⟩
  have he : t.toList.isEmpty = false := by rw [empty_is]; simp [hz]
  by_cases h3 : (3 : Int) < (t.size : Int)
  · have HF : Hid (lenV t = 0 ∧ lenB t = false) := by
      show _ ∧ _
      unfold lenV lenB lenO; rw [if_pos (Or.inr (Or.inl (by omega)))]; exact ⟨rfl, rfl⟩
    go_enter Tryz.func88, Tryz.ntmps88
    go_wp2
    go_ret2
    exact ⟨by rw [HF.out.1, HF.out.2]; rfl, rfl⟩
  have hpos : 0 < t.size := by omega
  have hb0 := byteAt_in t 0 hpos
  by_cases h0 : byteAt t 0 = 48 ∧ 1 < t.size
  · have HF : Hid (lenV t = 0 ∧ lenB t = false) := by
      show _ ∧ _
      unfold lenV lenB lenO; rw [if_pos (Or.inr (Or.inr h0))]; exact ⟨rfl, rfl⟩
    obtain ⟨q1, q2⟩ := h0
    have q2' : (1 : Int) < (t.size : Int) := by omega
    have qb : (byteAt t 0 == 48) = true := by simp [q1]
    generalize byteAt t 0 = c at *
    clear q1
    go_enter Tryz.func88, Tryz.ntmps88
    go_wp2
    go_ret2
    exact ⟨by rw [HF.out.1, HF.out.2]; rfl, rfl⟩
  have HO : Hid (lenO t = lenR t t.size 0 0) := by
    show _ = _
    unfold lenO; rw [if_neg]
    rintro (q | q | q)
    · exact hz q
    · omega
    · exact h0 q
  have hq : ((byteAt t 0 == 48) = false) ∨ ((byteAt t 0 == 48) = true ∧ ¬ (1 : Int) < (t.size : Int)) := by
    by_cases q : byteAt t 0 = 48
    · right; exact ⟨by simp [q], by omega⟩
    · left; simp [q]
  have ht3 : (t.size : Int) ≤ 3 := by omega
  clear h0
  rcases hq with qb | ⟨qb, q2⟩
  all_goals
    go_enter Tryz.func88, Tryz.ntmps88
    go_wp2
    go_loopw [4, 25] (fun a b wr => ∃ (k : Nat) (n : Int), a = .int .i64 n ∧ b = .int .i64 k ∧ k ≤ t.size ∧ 0 ≤ n ∧ n ≤ 999 ∧ Hid ((k = 0 ∧ n = 0) ∨ (k = 1 ∧ n ≤ 9) ∨ (k = 2 ∧ n ≤ 99) ∨ (k = 3 ∧ n ≤ 999)) ∧ Hid (lenR t (t.size - k) k n = lenR t t.size 0 0) ∧ wr = w) (fun _ b _ => t.size - (intOf b).toNat)
    case atStart => exact ⟨0, 0, rfl, rfl, by omega, by omega, by omega, Or.inl ⟨rfl, rfl⟩, rfl, rfl⟩
    case round =>
      obtain ⟨k, n, rfl, rfl, hk, g0, g1, HB, HR, rfl⟩ := hrel
      clear qb hb0 he
      by_cases hlt : k < t.size
      · have hbt := byteAt_in t k hlt
        have bd := byteAt_bd t k
        have HU : Hid (t.size - k = (t.size - (k + 1)) + 1) := by show _ = _; omega
        have HS : Hid (∀ f, lenR t (f + 1) k n = if byteAt t k < 48 ∨ 57 < byteAt t k then none else lenR t f (k + 1) (10 * n + (byteAt t k - 48))) := fun f => rfl
        generalize byteAt t k = c at *
        have hk2 : (k : Int) < (t.size : Int) := by omega
        by_cases d0 : c < 48
        · have HF : Hid (lenV t = 0 ∧ lenB t = false) := by
            show _ ∧ _
            unfold lenV lenB; rw [HO.out, ← HR.out, HU.out, HS.out, if_pos (Or.inl d0)]; exact ⟨rfl, rfl⟩
          clear HS HU HR HO
          go_wp2
          go_ret2
          exact ⟨by rw [HF.out.1, HF.out.2]; rfl, rfl⟩
        by_cases d1 : 57 < c
        · have HF : Hid (lenV t = 0 ∧ lenB t = false) := by
            show _ ∧ _
            unfold lenV lenB; rw [HO.out, ← HR.out, HU.out, HS.out, if_pos (Or.inr d1)]; exact ⟨rfl, rfl⟩
          clear HS HU HR HO
          go_wp2
          go_ret2
          exact ⟨by rw [HF.out.1, HF.out.2]; rfl, rfl⟩
        · have HF : Hid (lenR t (t.size - (k + 1)) (k + 1) (10 * n + (c - 48)) = lenR t t.size 0 0) := by
            show _ = _
            rw [← HR.out, HU.out, HS.out, if_neg (by omega)]
          have hn : 10 * n + (c - 48) ≤ 999 ∧ 0 ≤ 10 * n + (c - 48) := by
            have := HB.out
            omega
          have HB2 : Hid ((k + 1 = 0 ∧ 10 * n + (c - 48) = 0) ∨ (k + 1 = 1 ∧ 10 * n + (c - 48) ≤ 9) ∨ (k + 1 = 2 ∧ 10 * n + (c - 48) ≤ 99) ∨ (k + 1 = 3 ∧ 10 * n + (c - 48) ≤ 999)) := by
            have := HB.out
            show _ ∨ _
            omega
          have u1 : IntKind.u8.wrap (c - 48) = c - 48 := by simp [IntKind.wrap, IntKind.bits, IntKind.signed]; omega
          obtain ⟨hn1, hn2⟩ := hn
          clear HS HU HR HO HB
          go_wp2
          go_roundw
          case rel => exact ⟨k + 1, 10 * n + (c - 48), rfl, by go_num, by omega, hn2, hn1, HB2, HF, trivial⟩
          case measure => simp [intOf]; omega
      · have HF : Hid (lenV t = n ∧ lenB t = true) := by
          show _ ∧ _
          have e : t.size - k = 0 := by omega
          unfold lenV lenB; rw [HO.out, ← HR.out, e]; exact ⟨rfl, rfl⟩
        have hk2 : ¬ (k : Int) < (t.size : Int) := by omega
        clear HR HO HB
        go_wp2
        go_ret2
        exact ⟨by rw [HF.out.1, HF.out.2]; rfl, rfl⟩

def ppE (F : Int) (s : ByteArray) : Int := if apE F (headS s) = 0 then (if lenB (tailS s) = true then checkE F (apV F (headS s)) (lenV (tailS s)) else 12) else apE F (headS s)
def ppV (F : Int) (s : ByteArray) : BitVec 128 := if ppE F s = 0 then apV F (headS s) else 0#128
def ppN (F : Int) (s : ByteArray) : Int := if ppE F s = 0 then lenV (tailS s) else 0
theorem ext_le (s : ByteArray) (a b : Nat) : (s.extract a b).size ≤ s.size := by rw [ByteArray.size_extract]; omega
theorem headS_le (s : ByteArray) : (headS s).size ≤ s.size := by
  unfold headS; split
  · exact Nat.le_refl _
  · exact ext_le _ _ _
theorem tailS_le (s : ByteArray) : (tailS s).size ≤ s.size := by
  unfold tailS; split
  · exact Nat.zero_le _
  · exact ext_le _ _ _
set_option maxHeartbeats 2000000 in
theorem pparse_any (F : Int) (s : ByteArray) (w : World) (hs : s.size ≤ maxLen) :
    Calls Tryz.prog 71 #[.int .i64 F, .string s] w fun e w' => e = .returned (.tuple #[.agg #[.int .u64 (hI (ppV F s)), .int .u64 (lI (ppV F s)), .int .i64 (ppN F s)], .int .i64 (ppE F s)]) ∧ Below w.heap.size w w' := by
  have KU := fun w => scut_any s w hs
  have KA := fun w => aparse_any F (headS s) w (Nat.le_trans (headS_le s) hs)
  have KL := fun w => plength_any (tailS s) w (Nat.le_trans (tailS_le s) hs)
  have KC := fun w => pcheck_any F (apV F (headS s)) (lenV (tailS s)) w
  unfold ppV ppN ppE
  generalize checkE F (apV F (headS s)) (lenV (tailS s)) = c at *
  generalize apE F (headS s) = e0 at *
  generalize apV F (headS s) = x at *
  generalize lenV (tailS s) = n at *
  generalize lenB (tailS s) = b at *
  generalize headS s = h at *
  generalize tailS s = t at *
  generalize decide (ixS s ≠ -1) = i at *
  by_cases h0 : e0 = 0
  · subst h0
    rw [if_pos rfl]
    cases b
    · rw [if_neg (show ¬ (false = true) by decide), if_neg (show ¬ ((12 : Int) = 0) by decide), if_neg (show ¬ ((12 : Int) = 0) by decide), hI_zero, lI_zero]
      go_enter Tryz.func71, Tryz.ntmps71
      go_wp2_with fail
      refine (KU _).mono ?_
      rintro e w1 ⟨rfl, hb1⟩
      have Z1 := (atp_new w w.heap.size 0#128 0 37 rfl).below hb1
      have kB1 := keepb hb1 (bl1 w _)
      clear hb1 KU
      go_wp2_with fail
      refine (KA _).mono ?_
      rintro e w2 ⟨rfl, hb2⟩
      have Z2 := (Z1.below hb2).below (bl1 _ (.cells #[.int .u64 (hI x), .int .u64 (lI x)] 35))
      have kB2 := (keepb hb2 kB1).alloc (keepb hb2 kB1).size (.cells #[.int .u64 (hI x), .int .u64 (lI x)] 35)
      clear hb2 KA Z1 kB1
      go_wp2_with fail
      refine (KL _).mono ?_
      rintro e w3 ⟨rfl, rfl⟩
      obtain ⟨z0, z1, z2, z3, z4, z5⟩ := Z2
      clear KL
      go_wp2
      exact bodyPost_ret (v := .tuple #[.agg #[.int .u64 0, .int .u64 0, .int .i64 0], .int .i64 12]) (by simp [results, Tryz.results71, go_sem, *]) rfl ⟨rfl, bset3 kB2 (Nat.le_refl _) _ _ _⟩
    · rw [if_pos rfl]
      by_cases hc : c = 0
      · subst hc
        rw [if_pos rfl, if_pos rfl]
        go_enter Tryz.func71, Tryz.ntmps71
        go_wp2_with fail
        refine (KU _).mono ?_
        rintro e w1 ⟨rfl, hb1⟩
        have Z1 := (atp_new w w.heap.size 0#128 0 37 rfl).below hb1
        have kB1 := keepb hb1 (bl1 w _)
        clear hb1 KU
        go_wp2_with fail
        refine (KA _).mono ?_
        rintro e w2 ⟨rfl, hb2⟩
        have Z2 := (Z1.below hb2).below (bl1 _ (.cells #[.int .u64 (hI x), .int .u64 (lI x)] 35))
        have kB2 := (keepb hb2 kB1).alloc (keepb hb2 kB1).size (.cells #[.int .u64 (hI x), .int .u64 (lI x)] 35)
        clear hb2 KA Z1 kB1
        go_wp2_with fail
        refine (KL _).mono ?_
        rintro e w3 ⟨rfl, rfl⟩
        clear KL
        have Z3 := Z2.below (bl1 _ (.cells #[.int .u64 (hI x), .int .u64 (lI x), .int .i64 n] 37))
        have C3 := atp_new (w2.alloc (.cells #[.int .u64 (hI x), .int .u64 (lI x)] 35)) (w2.heap.size + 1) x n 37 (by simp)
        have kB3 := kB2.alloc kB2.size (.cells #[.int .u64 (hI x), .int .u64 (lI x), .int .i64 n] 37)
        clear Z2 kB2
        go_wp2_with fail
        refine (KC _).mono ?_
        rintro e w4 ⟨rfl, hb4⟩
        obtain ⟨z0, z1, z2, z3, z4, z5⟩ := Z3.below hb4
        obtain ⟨c0, c1, c2, -, -, -⟩ := C3.below hb4
        have kB4 := keepb hb4 kB3
        clear KC Z3 C3 kB3 hb4
        go_wp2
        exact bodyPost_ret (v := .tuple #[.agg #[.int .u64 (hI x), .int .u64 (lI x), .int .i64 n], .int .i64 0]) (by simp [results, Tryz.results71, go_sem, *]) rfl ⟨rfl, bset3 kB4 (Nat.le_refl _) _ _ _⟩
      · have hcb : (c != 0) = true := by simp [hc]
        rw [if_neg hc, if_neg hc, hI_zero, lI_zero]
        go_enter Tryz.func71, Tryz.ntmps71
        go_wp2_with fail
        refine (KU _).mono ?_
        rintro e w1 ⟨rfl, hb1⟩
        have Z1 := (atp_new w w.heap.size 0#128 0 37 rfl).below hb1
        have kB1 := keepb hb1 (bl1 w _)
        clear hb1 KU
        go_wp2_with fail
        refine (KA _).mono ?_
        rintro e w2 ⟨rfl, hb2⟩
        have Z2 := (Z1.below hb2).below (bl1 _ (.cells #[.int .u64 (hI x), .int .u64 (lI x)] 35))
        have kB2 := (keepb hb2 kB1).alloc (keepb hb2 kB1).size (.cells #[.int .u64 (hI x), .int .u64 (lI x)] 35)
        clear hb2 KA Z1 kB1
        go_wp2_with fail
        refine (KL _).mono ?_
        rintro e w3 ⟨rfl, rfl⟩
        clear KL
        have Z3 := Z2.below (bl1 _ (.cells #[.int .u64 (hI x), .int .u64 (lI x), .int .i64 n] 37))
        have C3 := atp_new (w2.alloc (.cells #[.int .u64 (hI x), .int .u64 (lI x)] 35)) (w2.heap.size + 1) x n 37 (by simp)
        have kB3 := kB2.alloc kB2.size (.cells #[.int .u64 (hI x), .int .u64 (lI x), .int .i64 n] 37)
        clear Z2 kB2
        go_wp2_with fail
        refine (KC _).mono ?_
        rintro e w4 ⟨rfl, hb4⟩
        obtain ⟨z0, z1, z2, z3, z4, z5⟩ := Z3.below hb4
        have kB4 := keepb hb4 kB3
        clear KC Z3 C3 kB3 hb4
        go_wp2
        exact bodyPost_ret (v := .tuple #[.agg #[.int .u64 0, .int .u64 0, .int .i64 0], .int .i64 c]) (by simp [results, Tryz.results71, go_sem, *]) rfl ⟨rfl, bset3 kB4 (Nat.le_refl _) _ _ _⟩
  · have hb : (e0 != 0) = true := by simp [h0]
    rw [if_neg h0, if_neg h0, if_neg h0, hI_zero, lI_zero]
    go_enter Tryz.func71, Tryz.ntmps71
    go_wp2_with fail
    refine (KU _).mono ?_
    rintro e w1 ⟨rfl, hb1⟩
    have Z1 := (atp_new w w.heap.size 0#128 0 37 rfl).below hb1
    have kB1 := keepb hb1 (bl1 w _)
    clear hb1 KU
    go_wp2_with fail
    refine (KA _).mono ?_
    rintro e w2 ⟨rfl, hb2⟩
    obtain ⟨z0, z1, z2, z3, z4, z5⟩ := (Z1.below hb2).below (bl1 _ (.cells #[.int .u64 (hI x), .int .u64 (lI x)] 35))
    have kB2 := (keepb hb2 kB1).alloc (keepb hb2 kB1).size (.cells #[.int .u64 (hI x), .int .u64 (lI x)] 35)
    clear hb2 KA Z1 kB1
    go_wp2
    exact bodyPost_ret (v := .tuple #[.agg #[.int .u64 0, .int .u64 0, .int .i64 0], .int .i64 e0]) (by simp [results, Tryz.results71, go_sem, *]) rfl ⟨rfl, bset3 kB2 (Nat.le_refl _) _ _ _⟩
end Go.Proofs.YtmeaikmmhgmgnaaGreat
namespace Go.Proofs.YtmeaikmmhgmgnaaGreat
open Go.RowKit
set_option linter.unusedSimpArgs false
set_option linter.unusedVariables false

def cmpI (a b : Int) : Int := if a < b then -1 else if b < a then 1 else 0
theorem compare_any (a b : Int) (w : World) :
    Calls Tryz.prog 79 #[.int .i64 a, .int .i64 b] w fun e w' => e = .returned (.int .i64 (cmpI a b)) ∧ w' = w := by
  unfold cmpI
  have haa : (a != a) = false := by simp
  have hbb : (b != b) = false := by simp
  by_cases h : a < b
  · rw [if_pos h]
    go_enter Tryz.func79, Tryz.ntmps79
    go_wp2_with go_in
    go_ret
    exact ⟨rfl, rfl⟩
  · rw [if_neg h]
    by_cases h2 : b < a
    · rw [if_pos h2]
      go_enter Tryz.func79, Tryz.ntmps79
      go_wp2_with go_in
      go_ret
      exact ⟨rfl, rfl⟩
    · rw [if_neg h2]
      go_enter Tryz.func79, Tryz.ntmps79
      go_wp2_with go_in
      go_ret
      exact ⟨rfl, rfl⟩
def pcmpZ (x : BitVec 128) (n : Int) (y : BitVec 128) (m : Int) : Int := if cmpZ x y = 0 then cmpI n m else cmpZ x y
set_option maxHeartbeats 1000000 in
theorem pcmp_any (x : BitVec 128) (n : Int) (y : BitVec 128) (m : Int) (w : World) :
    Calls Tryz.prog 57 #[.agg #[.int .u64 (hI x), .int .u64 (lI x), .int .i64 n], .agg #[.int .u64 (hI y), .int .u64 (lI y), .int .i64 m]] w fun e w' => e = .returned (.int .i64 (pcmpZ x n y m)) ∧ Below w.heap.size w w' := by
  have KC := fun w => cmp_any x y w
  have KM := fun w => compare_any n m w
  unfold pcmpZ
  generalize cmpZ x y = c at *
  generalize cmpI n m = d at *
  by_cases h : c = 0
  · subst h
    rw [if_pos rfl]
    go_enter Tryz.func57, Tryz.ntmps57
    go_wp2_with fail
    refine (KC _).mono ?_
    rintro e w1 ⟨rfl, hb1⟩
    have kB := keepb hb1 (bl2 w _ _)
    obtain ⟨p0, p1, p2, -, -, -⟩ := ((atp_new w w.heap.size x n 37 rfl).below (bl1 _ (.cells #[.int .u64 (hI y), .int .u64 (lI y), .int .i64 m] 37))).below hb1
    obtain ⟨r0, r1, r2, -, -, -⟩ := (atp_new (w.alloc (.cells #[.int .u64 (hI x), .int .u64 (lI x), .int .i64 n] 37)) (w.heap.size + 1) y m 37 (by simp)).below hb1
    clear hb1 KC
    go_wp2_with fail
    refine (KM _).mono ?_
    rintro e w2 ⟨rfl, rfl⟩
    go_wp2
    go_ret
    exact ⟨rfl, kB⟩
  · have hb : (c != 0) = true := by simp [h]
    rw [if_neg h]
    go_enter Tryz.func57, Tryz.ntmps57
    go_wp2_with fail
    refine (KC _).mono ?_
    rintro e w1 ⟨rfl, hb1⟩
    have kB := keepb hb1 (bl2 w _ _)
    clear hb1 KC
    go_wp2
    go_ret
    exact ⟨rfl, kB⟩
end Go.Proofs.YtmeaikmmhgmgnaaGreat
namespace Go.Proofs.YtmeaikmmhgmgnaaGreat
open Go.RowKit
set_option linter.unusedSimpArgs false
set_option linter.unusedVariables false

abbrev Rte := (BitVec 128 × Int) × Int
def AtR (w : World) (B : Nat) (x : BitVec 128) (n h : Int) : Prop := w.cell? ⟨B, 0, none⟩ = some (.int .u64 (hI x)) ∧ w.cell? ⟨B, 1, none⟩ = some (.int .u64 (lI x)) ∧ w.cell? ⟨B, 2, none⟩ = some (.int .i64 n) ∧ w.cell? ⟨B, 3, none⟩ = some (.int .i64 h)
theorem AtR.below {w w' : World} {B : Nat} {x : BitVec 128} {n h : Int} (g : AtR w B x n h) (hb : Below w.heap.size w w') : AtR w' B x n h := by
  obtain ⟨h0, h1, h2, h3⟩ := g
  exact ⟨keepc hb h0, keepc hb h1, keepc hb h2, keepc hb h3⟩
theorem atr_new (w : World) (B : Nat) (x : BitVec 128) (n h : Int) (T : TypeId) (e : B = w.heap.size) : AtR (w.alloc (.cells #[.int .u64 (hI x), .int .u64 (lI x), .int .i64 n, .int .i64 h] T)) B x n h := by
  subst e
  refine ⟨?_, ?_, ?_, ?_⟩ <;> simp [go_sem]
def rowR : List Rte → List Value
  | [] => []
  | r :: l => .int .u64 (hI r.1.1) :: .int .u64 (lI r.1.1) :: .int .i64 r.1.2 :: .int .i64 r.2 :: rowR l
theorem rowR_get : ∀ (l : List Rte) (j : Nat) (hj : j < l.length), (rowR l)[j * 4]? = some (.int .u64 (hI l[j].1.1)) ∧ (rowR l)[j * 4 + 1]? = some (.int .u64 (lI l[j].1.1)) ∧ (rowR l)[j * 4 + 2]? = some (.int .i64 l[j].1.2) ∧ (rowR l)[j * 4 + 3]? = some (.int .i64 l[j].2) := by
  intro l
  induction l with
  | nil => intro j hj; simp at hj
  | cons p l ih =>
    intro j hj
    cases j with
    | zero => simp [rowR]
    | succ j =>
      have := ih j (by simpa using hj)
      rw [show (j + 1) * 4 = j * 4 + 4 by omega, show j * 4 + 4 + 1 = j * 4 + 1 + 4 by omega, show j * 4 + 4 + 2 = j * 4 + 2 + 4 by omega, show j * 4 + 4 + 3 = j * 4 + 3 + 4 by omega]
      simpa [rowR] using this
def RwR (W : World) (v : Value) (l : List Rte) : Prop := ∃ ao c, v = .slice ao l.length c ∧ (l = [] ∨ ∃ b off, ao = some ⟨b, off, none⟩ ∧ ∀ j u, (rowR l)[j]? = some u → W.cell? ⟨b, off + j, none⟩ = some u)
theorem RwR.below {W W' : World} {v : Value} {l : List Rte} (h : RwR W v l) (hb : Below W.heap.size W W') : RwR W' v l := by
  obtain ⟨ao, c, e, h⟩ := h
  refine ⟨ao, c, e, h.imp id ?_⟩
  rintro ⟨b, off, e', hc⟩
  exact ⟨b, off, e', fun j u hj => keepc hb (hc j u hj)⟩
theorem rwr_cells {W : World} {b off : Nat} {l : List Rte} (h : ∀ j u, (rowR l)[j]? = some u → W.cell? ⟨b, off + j, none⟩ = some u) (k : Nat) (hk : k < l.length) :
    W.cell? ⟨b, off + k * 4, none⟩ = some (.int .u64 (hI l[k].1.1)) ∧ W.cell? ⟨b, off + k * 4 + 1, none⟩ = some (.int .u64 (lI l[k].1.1)) ∧ W.cell? ⟨b, off + k * 4 + 2, none⟩ = some (.int .i64 l[k].1.2) ∧ W.cell? ⟨b, off + k * 4 + 3, none⟩ = some (.int .i64 l[k].2) := by
  obtain ⟨a, c, d, e⟩ := rowR_get l k hk
  exact ⟨h _ _ a, h _ _ c, h _ _ d, h _ _ e⟩
def hopB (n : Int) : Bool := decide (1 ≤ n) && decide (n ≤ 65535)
theorem isHop_any (n : Int) (w : World) : Calls Tryz.prog 90 #[.int .i64 n] w fun e w' => e = .returned (.bool (hopB n)) ∧ w' = w := by
  unfold hopB
  go_enter Tryz.func90, Tryz.ntmps90
  by_cases h1 : 1 ≤ n
  · by_cases h2 : n ≤ 65535
    · go_wp2
      go_ret
      exact ⟨by simp [h1, h2], rfl⟩
    · go_wp2
      go_ret
      exact ⟨by simp [h1, h2], rfl⟩
  · go_wp2
    go_ret
    exact ⟨by rw [decide_eq_false (by omega : ¬ 1 ≤ n)]; rfl, rfl⟩
theorem hidR {p : Prop} (h : p) : Hid p := h
theorem byPrefix_any (x : BitVec 128) (n h : Int) (y : BitVec 128) (m g : Int) (w : World) :
    Calls Tryz.prog 49 #[.agg #[.int .u64 (hI x), .int .u64 (lI x), .int .i64 n, .int .i64 h], .agg #[.int .u64 (hI y), .int .u64 (lI y), .int .i64 m, .int .i64 g]] w fun e w' => e = .returned (.int .i64 (pcmpZ x n y m)) ∧ Below w.heap.size w w' := by
  have KC := fun w => pcmp_any x n y m w
  generalize pcmpZ x n y m = z at *
  have A1 := atr_new w w.heap.size x n h 47 rfl
  have b1 := bl1 w (.cells #[.int .u64 (hI x), .int .u64 (lI x), .int .i64 n, .int .i64 h] 47)
  have b2 := bl1 (w.alloc (.cells #[.int .u64 (hI x), .int .u64 (lI x), .int .i64 n, .int .i64 h] 47)) (.cells #[.int .u64 (hI y), .int .u64 (lI y), .int .i64 m, .int .i64 g] 47)
  obtain ⟨p0, p1, p2, -⟩ := A1.below b2
  obtain ⟨q0, q1, q2, -⟩ := atr_new (w.alloc (.cells #[.int .u64 (hI x), .int .u64 (lI x), .int .i64 n, .int .i64 h] 47)) (w.heap.size + 1) y m g 47 (by simp)
  have HB := hidR (keepb b2 b1)
  clear A1 b1 b2
  go_enter Tryz.func49, Tryz.ntmps49
  go_wp2_with fail
  refine (KC _).mono ?_
  rintro e w1 ⟨rfl, hb⟩
  have kB := keepb hb HB.out
  clear KC hb HB p0 p1 p2 q0 q1 q2
  go_wp2
  go_ret
  exact ⟨rfl, kB⟩
def rteE (F : Int) (r : Rte) : Int := if checkE F r.1.1 r.1.2 = 0 then (if hopB r.2 = true then 0 else 15) else checkE F r.1.1 r.1.2
def rtsG (F : Int) : List Rte → Int
  | [] => 0
  | r :: l => if rteE F r = 0 then rtsG F l else rteE F r
def rtsE (F : Int) (l : List Rte) : Int := if fam F = true then (if 1048576 < l.length then 16 else rtsG F l) else 11
theorem rts_drop (F : Int) (l : List Rte) (k : Nat) (hk : k < l.length) : rtsG F (l.drop k) = if rteE F l[k] = 0 then rtsG F (l.drop (k + 1)) else rteE F l[k] := by
  rw [List.drop_eq_getElem_cons hk]
  rfl
end Go.Proofs.YtmeaikmmhgmgnaaGreat
