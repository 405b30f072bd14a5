/-
  Part 4 of the proof: 3 texts, one behind the other.
-/
import Derived.Test.YtpchhfhdepkbcabDoorPart3
import Derived.Deep.Onto
/-
  What the call of turnpikeref2's groups does.
-/
namespace Go.Proofs.YtpchhfhdepkbcabDoor
open Go.RowKit
set_option linter.unusedSimpArgs false
set_option linter.unusedVariables false

theorem dotG_bd : ∀ (l : List ByteArray) (v u : Int), 0 ≤ v → dotG l v = some u → 0 ≤ u ∧ u < (v + 1) * 256 ^ l.length := by
  intro l
  induction l with
  | nil => intro v u h e; simp [dotG] at e; subst e; simp; omega
  | cons p l ih =>
    intro v u h e
    unfold dotG at e
    split at e
    · cases e
    · have ob := octV_bd p
      have := ih (256 * v + octV p) u (by omega) e
      refine ⟨this.1, ?_⟩
      have h2 : (256 * v + octV p + 1) * 256 ^ l.length ≤ ((v + 1) * 256) * 256 ^ l.length := Int.mul_le_mul_of_nonneg_right (by omega) (Int.pow_nonneg (by omega))
      rw [List.length_cons, Int.pow_succ, Int.mul_comm (256 ^ l.length), ← Int.mul_assoc]
      omega
theorem dotO_bd (t : ByteArray) (u : Int) (h : dotO t = some u) : 0 ≤ u ∧ u < 4294967296 := by
  unfold dotO at h
  split at h
  · rename_i hl
    have := dotG_bd _ 0 u (by omega) h
    rw [hl] at this
    exact ⟨this.1, by have := this.2; simpa using this⟩
  · cases h
theorem and16 (v : Int) (h0 : 0 ≤ v) (h1 : v < 4294967296) : bits .and .u64 v 65535 = v % 65536 := by
  obtain ⟨n, rfl⟩ := Int.eq_ofNat_of_zero_le h0
  have e1 : (n : Int) = ((BitVec.ofNat 64 n).toNat : Int) := by simp [BitVec.toNat_ofNat]; omega
  have e2 : (65535 : Int) = ((BitVec.ofNat 64 65535).toNat : Int) := by decide
  rw [e1, e2, bits64and _ _ _ rfl, BitVec.toNat_and, BitVec.toNat_ofNat, BitVec.toNat_ofNat, Nat.mod_eq_of_lt (by omega), show 65535 % 2 ^ 64 = 2 ^ 16 - 1 by decide, Nat.and_two_pow_sub_one_eq_mod]
  rfl
/-- The groups of the pieces, behind those that are there. -/
def gsG (last : Bool) : List ByteArray → List Int → Option (List Int)
  | [], acc => some acc
  | q :: rest, acc =>
    if last = true ∧ rest = [] ∧ (dotO q).isSome = true then some (acc ++ [(dotO q).getD 0 / 65536, (dotO q).getD 0 % 65536])
    else if grV q < 0 then none else gsG last rest (acc ++ [grV q])
def gsO (t : ByteArray) (last : Bool) : Option (List Int) := if t.size = 0 then some [] else gsG last (spl t 58 t.size 0 0) []
def ints (l : List Int) : List Value := l.map (Value.int .i64)
theorem spl_len (t : ByteArray) (c : Int) : ∀ f p i, 1 ≤ (spl t c f p i).length ∧ (spl t c f p i).length ≤ f + 1 := by
  intro f
  induction f with
  | zero => intro p i; exact ⟨by show 1 ≤ 1; omega, by show 1 ≤ 1; omega⟩
  | succ f ih =>
    intro p i
    unfold spl
    split
    · have := ih (i + 1) (i + 1)
      simp only [List.length_cons]; omega
    · have := ih p (i + 1)
      omega
theorem Tryd.infoI : (Tryd.prog.info? 3).map (fun i => (i.zero, i.size, i.bytes)) = some (some (.int .i64 0), 1, 8) := by kernel_rfl
theorem oneI (n : Int) : ∀ u ∈ [Value.int .i64 n], u.oneCell' = true := by
  intro u hu; simp at hu; subst hu; rfl
theorem twoI (n m : Int) : ∀ u ∈ [Value.int .i64 n, Value.int .i64 m], u.oneCell' = true := by
  intro u hu; simp at hu; rcases hu with rfl | rfl <;> rfl
theorem newsT (W : World) (a b : Value) (t : TypeId) : ∀ j u, [a, b][j]? = some u → (W.alloc (.cells #[a, b] t)).cell? ((⟨W.heap.size, 0, none⟩ : Addr).add j) = some u := by
  intro j u hj
  match j, hj with
  | 0, hj => simp at hj; subst hj; simp [Addr.add, go_sem]
  | 1, hj => simp at hj; subst hj; simp [Addr.add, go_sem]

theorem empty_is (t : ByteArray) : t.toList.isEmpty = decide (t.size = 0) := by
  rw [Lib.toList_data, Lib.size_eq]
  cases t.data.toList <;> simp

set_option maxHeartbeats 8000000 in
set_option maxRecDepth 20000 in
theorem groups_any (t : ByteArray) (last : Bool) (w : World) (hs : t.size ≤ 1000) :
    Calls Tryd.prog 65 #[.string t, .bool last] w fun e w' => ((gsO t last = none ∧ e = .returned (.tuple #[.slice none 0 0, .bool false])) ∨ (∃ xs ao cap, gsO t last = some xs ∧ e = .returned (.tuple #[.slice ao xs.length cap, .bool true]) ∧ w'.ownsRow w.heap.size 3 1 (.slice ao xs.length cap) xs.length (ints xs))) ∧ Below w.heap.size w w' := by
  obtain ⟨i0, hi, hz0, hz1, hz2⟩ := info_parts Tryd.infoI
  by_cases h0 : t.size = 0
  · have he : t.toList.isEmpty = true := by rw [empty_is]; simp [h0]
    have HG : Hid (gsO t last = some []) := if_pos h0
    go_enter Tryd.func65, Tryd.ntmps65
    go_wp2
    go_ret2
    exact ⟨Or.inr ⟨[], none, 0, HG.out, rfl, World.ownsRow_nil _ _ _ _⟩, Below.refl _ _⟩
  have he : t.toList.isEmpty = false := by rw [empty_is]; simp [h0]
  have KS := fun w => split_any t 58 w hs (by omega) (by omega)
  have hsz := spl_size t 58 t.size 0 0
  have hln := spl_len t 58 t.size 0 0
  have HG : Hid (gsO t last = gsG last (spl t 58 t.size 0 0) []) := if_neg h0
  generalize spl t 58 t.size 0 0 = l at *
  go_enter Tryd.func65, Tryd.ntmps65
  go_wp2_with fail
  refine (KS _).mono ?_
  rintro e w1 ⟨⟨g, cap, rfl, hown⟩, hB⟩
  clear KS
  have hrow : Hid (∀ k (hk : k < l.length), w1.cell? ⟨g, k, none⟩ = some (.string l[k])) := fun k hk => row_get hown rfl k hk
  have hg := (hown.lt g rfl).2
  have hB1 := hB.size
  clear hown
  go_wp2
  go_loopw [6, 8] (fun a b wr => ∃ (k : Nat) (acc : List Int) (ao : Option Addr) (cp : Nat), a = .slice ao acc.length cp ∧ b = .int .i64 k ∧ k ≤ l.length ∧ acc.length ≤ k ∧ Hid (gsG last (l.drop k) acc = gsG last l []) ∧ wr.ownsRow w1.heap.size 3 1 (.slice ao acc.length cp) acc.length (ints acc) ∧ Hid (∀ k (hk : k < l.length), wr.cell? ⟨g, k, none⟩ = some (.string l[k])) ∧ Below w.heap.size w wr ∧ w1.heap.size ≤ wr.heap.size) (fun _ b _ => l.length - (intOf b).toNat)
  case atStart => exact ⟨0, [], none, 0, rfl, rfl, by omega, by simp, rfl, World.ownsRow_nil _ _ _ _, hrow, hB, Nat.le_refl _⟩
  case round =>
    clear hrow hB
    obtain ⟨k, acc, ao, cp, rfl, rfl, hk, ha, HR, hown, hrow, hB, hw1⟩ := hrel
    have hBs := hB.size
    by_cases hlt : k < l.length
    · have hk2 : (k : Int) < (l.length : Int) := by omega
      have hcell := hrow.out k hlt
      have HD : Hid (l.drop k = l[k] :: l.drop (k + 1)) := List.drop_eq_getElem_cons hlt
      have hqs : l[k].size ≤ 1000 := by have := hsz l[k] (List.getElem_mem hlt); omega
      have HL : Hid (l.drop (k + 1) = [] ↔ k + 1 = l.length) := by
        show _ ↔ _
        rw [List.drop_eq_nil_iff]; omega
      have HS : Hid (gsG last (l.drop k) acc = if last = true ∧ l.drop (k + 1) = [] ∧ (dotO l[k]).isSome = true then some (acc ++ [(dotO l[k]).getD 0 / 65536, (dotO l[k]).getD 0 % 65536]) else if grV l[k] < 0 then none else gsG last (l.drop (k + 1)) (acc ++ [grV l[k]])) := by
        show _ = _
        rw [HD.out]; rfl
      have KDt := fun w => dotted_any l[k] w hqs
      have KGr := fun w => rgroup_any l[k] w (by unfold maxLen; omega)
      have HDB : Hid (∀ u, dotO l[k] = some u → 0 ≤ u ∧ u < 4294967296) := dotO_bd l[k]
      have HQ : Hid (∀ h : k < l.length, l[k] = l[k]'h) := fun _ => rfl
      obtain ⟨q, hq⟩ : ∃ q, l[k] = q := ⟨_, rfl⟩
      rw [hq] at hcell hqs HS KDt KGr HDB
      clear HD HQ
      have h63 : acc.length + 1 ≤ maxLen := by unfold maxLen; omega
      have h47 : (acc.length + 1) * 8 ≤ 140737488355328 := by omega
      have h632 : acc.length + 2 ≤ maxLen := by unfold maxLen; omega
      have h472 : (acc.length + 2) * 8 ≤ 140737488355328 := by omega
      by_cases hla : last = true ∧ k + 1 = l.length
      · obtain ⟨rfl, hkl⟩ := hla
        have hkl2 : (l.length : Int) - 1 = (k : Int) := by omega
        have hu : IntKind.i64.wrap (k : Int) = (k : Int) := by rw [IntKind.wrap_i64]; omega
        cases hdo : dotO q with
        | none =>
          have HSG : Hid (gsG true (l.drop k) acc = if grV q < 0 then none else gsG true (l.drop (k + 1)) (acc ++ [grV q])) := by
            show _ = _
            rw [HS.out, hdo, if_neg (by simp)]
          rw [hdo] at KDt
          clear HS HDB hdo HL
          generalize grV q = n at *
          go_wp2_with fail
          refine (KDt _).mono ?_
          rintro e w2 ⟨rfl, hb2⟩
          clear KDt hcell
          have hown := rowBelow hb2 hown
          have hrow : Hid (∀ k (hk : k < l.length), w2.cell? ⟨g, k, none⟩ = some (.string l[k])) := fun k hk => keepc hb2 (hrow.out k hk)
          have hcell := hrow.out k hlt
          have hw1 : w1.heap.size ≤ w2.heap.size := Nat.le_trans hw1 hb2.size
          have hB := keepb hb2 hB
          have hBs := hB.size
          clear hb2
          by_cases hn : n < 0
          · have HF : Hid (gsO t true = none) := by show _ = _; rw [HG.out, ← HR.out, HSG.out, if_pos hn]
            clear HSG HR
            go_wp2_with fail
            refine (KGr _).mono ?_
            rintro e w3 ⟨rfl, rfl⟩
            clear KGr
            go_wp2
            go_ret2
            first | exact ⟨Or.inl ⟨HF.out, rfl⟩, hB⟩ | exact ⟨Or.inl HF.out, hB⟩
          · have HF : Hid (gsG true (l.drop (k + 1)) (acc ++ [n]) = gsG true l []) := by show _ = _; rw [← HR.out, HSG.out, if_neg hn]
            clear HSG HR
            go_wp2_with fail
            refine (KGr _).mono ?_
            rintro e w3 ⟨rfl, hw3⟩
            rw [hw3]; clear hw3 KGr
            go_wp2_with (first | (at_builtin; refine wpList_append_lies _ rfl _ _ 93 rfl w1.heap.size 3 i0 (.int .i64 0) 1 8 Tryd.underlying93 hi hz0 hz1 hz2 rfl (by decide) _ _ _ rfl (hown.alloc _) ⟨w2.heap.size, 0, none⟩ 1 1 [.int .i64 n] rfl rfl (newsS _ _ _) (oneI _) (by decide) h63 h47 (by simp; omega) _ rfl ?_; intro g4 cap4 w4 hown4 hgrow hat hlt4))
            have hne : some g ≠ (Value.slice ao acc.length cp).ownBlock := fun e => by have := (hown.lt g e.symm).1; omega
            have kB4 : Below w.heap.size w w4 := (hB.alloc hBs _).grown hgrow (by simp; omega) (fun q hq => by have := (hown.lt q hq).1; omega)
            have hrow4 : Hid (∀ k (hk : k < l.length), w4.cell? ⟨g, k, none⟩ = some (.string l[k])) := fun k hk => hgrow.cell (keepc (bl1 _ _) (hrow.out k hk)) hne
            have hs4 : w1.heap.size ≤ w4.heap.size := by have := hgrow.size; simp at this; omega
            clear hgrow hat hne
            go_roundw
            case rel => exact ⟨k + 1, acc ++ [n], some ⟨g4, 0, none⟩, cap4, by simp, by go_num, by omega, by simp; omega, HF, by simpa [ints] using hown4, hrow4, kB4, hs4⟩
            case measure => simp [intOf]; omega
        | some v =>
          obtain ⟨v0, v1⟩ := HDB.out v hdo
          have HF : Hid (gsO t true = some (acc ++ [v / 65536, v % 65536])) := by
            show _ = _
            rw [HG.out, ← HR.out, HS.out, hdo, if_pos ⟨rfl, HL.out.mpr hkl, rfl⟩]; rfl
          have KD2 : ∀ w, Calls Tryd.prog 63 #[.string q] w fun e w' => e = .returned (.tuple #[.int .u64 v, .bool true]) ∧ Below w.heap.size w w' := by
            rw [hdo] at KDt; exact KDt
          have hand := and16 v v0 v1
          clear HS HDB hdo HL HR KGr KDt
          go_wp2_with fail
          refine (KD2 _).mono ?_
          rintro e w2 ⟨rfl, hb2⟩
          clear KD2 hcell hrow
          have hown := rowBelow hb2 hown
          have hw1 : w1.heap.size ≤ w2.heap.size := Nat.le_trans hw1 hb2.size
          have hB := keepb hb2 hB
          have hBs := hB.size
          clear hb2
          go_wp2_with (first | (at_builtin; refine wpList_append_lies _ rfl _ _ 93 rfl w1.heap.size 3 i0 (.int .i64 0) 1 8 Tryd.underlying93 hi hz0 hz1 hz2 rfl (by decide) _ _ _ rfl (hown.alloc _) ⟨w2.heap.size, 0, none⟩ 2 2 [.int .i64 (v / 65536), .int .i64 (v % 65536)] rfl rfl (newsT _ _ _ _) (twoI _ _) (by decide) h632 h472 (by simp; omega) _ rfl ?_; intro g4 cap4 w4 hown4 hgrow hat hlt4))
          have kB4 : Below w.heap.size w w4 := (hB.alloc hBs _).grown hgrow (by simp; omega) (fun q hq => by have := (hown.lt q hq).1; omega)
          clear hgrow hat
          go_ret2
          refine ⟨Or.inr ?_, kB4⟩
          have hl2 : (acc ++ [v / 65536, v % 65536]).length = acc.length + 2 := by simp
          refine ⟨acc ++ [v / 65536, v % 65536], some ⟨g4, 0, none⟩, cap4, HF.out, by rw [hl2]; rfl, ?_⟩
          rw [hl2]
          refine World.ownsRow.mono (base := w1.heap.size) ?_ hB1
          simpa [ints] using hown4
      · have HSG : Hid (gsG last (l.drop k) acc = if grV q < 0 then none else gsG last (l.drop (k + 1)) (acc ++ [grV q])) := by
          show _ = _
          rw [HS.out, if_neg]
          rintro ⟨a1, a2, -⟩
          exact hla ⟨a1, HL.out.mp a2⟩
        have hkl2 : last = true → ¬ (k : Int) = (l.length : Int) - 1 := fun a1 e => hla ⟨a1, by omega⟩
        have hu : IntKind.i64.wrap ((l.length : Int) - 1) = (l.length : Int) - 1 := by rw [IntKind.wrap_i64]; omega
        clear HS HDB HL KDt hla
        generalize grV q = n at *
        cases last
        · clear hkl2
          by_cases hn : n < 0
          · have HF : Hid (gsO t false = none) := by show _ = _; rw [HG.out, ← HR.out, HSG.out, if_pos hn]
            clear HSG HR
            go_wp2_with fail
            refine (KGr _).mono ?_
            rintro e w3 ⟨rfl, rfl⟩
            clear KGr
            go_wp2
            go_ret2
            first | exact ⟨Or.inl ⟨HF.out, rfl⟩, hB⟩ | exact ⟨Or.inl HF.out, hB⟩
          · have HF : Hid (gsG false (l.drop (k + 1)) (acc ++ [n]) = gsG false l []) := by show _ = _; rw [← HR.out, HSG.out, if_neg hn]
            clear HSG HR
            go_wp2_with fail
            refine (KGr _).mono ?_
            rintro e w3 ⟨rfl, hw3⟩
            rw [hw3]; clear hw3 KGr
            go_wp2_with (first | (at_builtin; refine wpList_append_lies _ rfl _ _ 93 rfl w1.heap.size 3 i0 (.int .i64 0) 1 8 Tryd.underlying93 hi hz0 hz1 hz2 rfl (by decide) _ _ _ rfl (hown.alloc _) ⟨wr.heap.size, 0, none⟩ 1 1 [.int .i64 n] rfl rfl (newsS _ _ _) (oneI _) (by decide) h63 h47 (by simp; omega) _ rfl ?_; intro g4 cap4 w4 hown4 hgrow hat hlt4))
            have hne : some g ≠ (Value.slice ao acc.length cp).ownBlock := fun e => by have := (hown.lt g e.symm).1; omega
            have kB4 : Below w.heap.size w w4 := (hB.alloc hBs _).grown hgrow (by simp; omega) (fun q hq => by have := (hown.lt q hq).1; omega)
            have hrow4 : Hid (∀ k (hk : k < l.length), w4.cell? ⟨g, k, none⟩ = some (.string l[k])) := fun k hk => hgrow.cell (keepc (bl1 _ _) (hrow.out k hk)) hne
            have hs4 : w1.heap.size ≤ w4.heap.size := by have := hgrow.size; simp at this; omega
            clear hgrow hat hne
            go_roundw
            case rel => exact ⟨k + 1, acc ++ [n], some ⟨g4, 0, none⟩, cap4, by simp, by go_num, by omega, by simp; omega, HF, by simpa [ints] using hown4, hrow4, kB4, hs4⟩
            case measure => simp [intOf]; omega
        · have hkl3 : ((k : Int) == (l.length : Int) - 1) = false := by simp; exact hkl2 rfl
          clear hkl2
          by_cases hn : n < 0
          · have HF : Hid (gsO t true = none) := by show _ = _; rw [HG.out, ← HR.out, HSG.out, if_pos hn]
            clear HSG HR
            go_wp2_with fail
            refine (KGr _).mono ?_
            rintro e w3 ⟨rfl, rfl⟩
            clear KGr
            go_wp2
            go_ret2
            first | exact ⟨Or.inl ⟨HF.out, rfl⟩, hB⟩ | exact ⟨Or.inl HF.out, hB⟩
          · have HF : Hid (gsG true (l.drop (k + 1)) (acc ++ [n]) = gsG true l []) := by show _ = _; rw [← HR.out, HSG.out, if_neg hn]
            clear HSG HR
            go_wp2_with fail
            refine (KGr _).mono ?_
            rintro e w3 ⟨rfl, hw3⟩
            rw [hw3]; clear hw3 KGr
            go_wp2_with (first | (at_builtin; refine wpList_append_lies _ rfl _ _ 93 rfl w1.heap.size 3 i0 (.int .i64 0) 1 8 Tryd.underlying93 hi hz0 hz1 hz2 rfl (by decide) _ _ _ rfl (hown.alloc _) ⟨wr.heap.size, 0, none⟩ 1 1 [.int .i64 n] rfl rfl (newsS _ _ _) (oneI _) (by decide) h63 h47 (by simp; omega) _ rfl ?_; intro g4 cap4 w4 hown4 hgrow hat hlt4))
            have hne : some g ≠ (Value.slice ao acc.length cp).ownBlock := fun e => by have := (hown.lt g e.symm).1; omega
            have kB4 : Below w.heap.size w w4 := (hB.alloc hBs _).grown hgrow (by simp; omega) (fun q hq => by have := (hown.lt q hq).1; omega)
            have hrow4 : Hid (∀ k (hk : k < l.length), w4.cell? ⟨g, k, none⟩ = some (.string l[k])) := fun k hk => hgrow.cell (keepc (bl1 _ _) (hrow.out k hk)) hne
            have hs4 : w1.heap.size ≤ w4.heap.size := by have := hgrow.size; simp at this; omega
            clear hgrow hat hne
            go_roundw
            case rel => exact ⟨k + 1, acc ++ [n], some ⟨g4, 0, none⟩, cap4, by simp, by go_num, by omega, by simp; omega, HF, by simpa [ints] using hown4, hrow4, kB4, hs4⟩
            case measure => simp [intOf]; omega
    · have hk2 : ¬ (k : Int) < (l.length : Int) := by omega
      have HF : Hid (gsO t last = some acc) := by
        show _ = _
        rw [HG.out, ← HR.out, List.drop_of_length_le (by omega)]; rfl
      clear HR
      go_wp2
      go_ret2
      refine ⟨Or.inr ?_, hB⟩
      have hmono := World.ownsRow.mono hown hB1
      first | exact ⟨acc, ao, cp, HF.out, rfl, hmono⟩ | exact ⟨acc, HF.out, ao, cp, rfl, hmono⟩ | exact ⟨acc, HF.out, ao, cp, ⟨rfl, rfl, rfl⟩, hmono⟩
end Go.Proofs.YtpchhfhdepkbcabDoor
/-
  Plain facts: four numbers with points between, as the program reads them and as the reference does.
-/
namespace Go.Proofs.YtpchhfhdepkbcabDoor
open Go.RowKit
set_option linter.unusedSimpArgs false
set_option linter.unusedVariables false

theorem byteAt_sub (s : ByteArray) (a b k : Nat) (hb : b ≤ s.size) : byteAt (s.extract a b) k = if a + k < b then byteAt s (a + k) else 0 := by
  unfold byteAt
  by_cases h : a + k < b
  · have h2 : k < (s.extract a b).size := by simp; omega
    rw [if_pos h, dif_pos (show a + k < s.size by omega), dif_pos h2]
    congr 2
    rw [ByteArray.getElem_extract]
  · have h2 : ¬ k < (s.extract a b).size := by simp; omega
    rw [if_neg h, dif_neg h2]
theorem size_sub (s : ByteArray) (a b : Nat) (hb : b ≤ s.size) : (s.extract a b).size = b - a := by simp; omega
theorem byteAt_end (s : ByteArray) (k : Nat) (h : s.size ≤ k) : byteAt s k = 0 := by unfold byteAt; rw [dif_neg (by omega)]

theorem spl_scan (t : ByteArray) (c : Int) (p : Nat) : ∀ f i, p ≤ i → i + f = t.size → (∀ k, p ≤ k → k < i → ¬ byteAt t k = c) →
    ∃ j, i ≤ j ∧ j ≤ t.size ∧ (∀ k, p ≤ k → k < j → ¬ byteAt t k = c) ∧ ((j = t.size ∧ spl t c f p i = [t.extract p t.size]) ∨ (j < t.size ∧ byteAt t j = c ∧ spl t c f p i = t.extract p j :: spl t c (t.size - (j + 1)) (j + 1) (j + 1))) := by
  intro f
  induction f with
  | zero => intro i hp hi hn; exact ⟨i, Nat.le_refl _, by omega, hn, Or.inl ⟨by omega, rfl⟩⟩
  | succ f ih =>
    intro i hp hi hn
    by_cases hc : byteAt t i = c
    · refine ⟨i, Nat.le_refl _, by omega, hn, Or.inr ⟨by omega, hc, ?_⟩⟩
      have e : t.size - (i + 1) = f := by omega
      rw [e]; exact if_pos hc
    · obtain ⟨j, h1, h2, h3, h4⟩ := ih (i + 1) (by omega) (by omega) (fun k hk1 hk2 => by
        by_cases q : k = i
        · rw [q]; exact hc
        · exact hn k hk1 (by omega))
      have e : spl t c (f + 1) p i = spl t c f p (i + 1) := if_neg hc
      rw [e]
      exact ⟨j, by omega, h2, h3, h4⟩
/-- The first piece from p on, and the others. -/
theorem spl_next (t : ByteArray) (c : Int) (p : Nat) (hp : p ≤ t.size) :
    ∃ j, p ≤ j ∧ j ≤ t.size ∧ (∀ k, p ≤ k → k < j → ¬ byteAt t k = c) ∧ ((j = t.size ∧ spl t c (t.size - p) p p = [t.extract p t.size]) ∨ (j < t.size ∧ byteAt t j = c ∧ spl t c (t.size - p) p p = t.extract p j :: spl t c (t.size - (j + 1)) (j + 1) (j + 1))) :=
  spl_scan t c p (t.size - p) p (Nat.le_refl _) (by omega) (fun k h1 h2 => by omega)

theorem octG_big (q : ByteArray) : ∀ f k n, 1 ≤ n → octG q f k n = -1 ∨ n * 10 ^ f ≤ octG q f k n := by
  intro f
  induction f with
  | zero => intro k n h; right; show n * 10 ^ 0 ≤ n; simp
  | succ f ih =>
    intro k n h
    by_cases hd : 48 ≤ byteAt q k ∧ byteAt q k ≤ 57
    · have e : octG q (f + 1) k n = octG q f (k + 1) (10 * n + (byteAt q k - 48)) := if_pos hd
      rw [e]
      rcases ih (k + 1) (10 * n + (byteAt q k - 48)) (by omega) with h1 | h1
      · exact Or.inl h1
      · right
        have h2 : (10 * n) * 10 ^ f ≤ (10 * n + (byteAt q k - 48)) * 10 ^ f := Int.mul_le_mul_of_nonneg_right (by omega) (Int.pow_nonneg (by omega))
        have h3 : n * 10 ^ (f + 1) = (10 * n) * 10 ^ f := by rw [Int.pow_succ, Int.mul_comm (10 ^ f) 10, ← Int.mul_assoc, Int.mul_comm n 10]
        omega
    · left; exact if_neg hd

/-- Reading on within a piece that ends at j. -/
theorem num_on (s : ByteArray) (p j : Nat) (hj : j ≤ s.size) (hend : j = s.size ∨ byteAt s j = 46) : ∀ f k n, p + k + f = j → 1 ≤ n → n ≤ 255 →
    ((0 ≤ octG (s.extract p j) f k n ∧ octG (s.extract p j) f k n ≤ 255 → numR (s.extract p s.size) (s.size - p - k) k n = (octG (s.extract p j) f k n, ((j - p : Nat) : Int)))
    ∧ (¬ (0 ≤ octG (s.extract p j) f k n ∧ octG (s.extract p j) f k n ≤ 255) → (numR (s.extract p s.size) (s.size - p - k) k n).2 = 0 ∨ ∃ z : Nat, (numR (s.extract p s.size) (s.size - p - k) k n).2 = z ∧ p + z < j)) := by
  intro f
  induction f with
  | zero =>
    intro k n hk h0 h1
    have e : octG (s.extract p j) 0 k n = n := rfl
    rw [e]
    refine ⟨fun _ => ?_, fun q => absurd ⟨by omega, h1⟩ q⟩
    have hb : ¬ (48 ≤ byteAt (s.extract p s.size) k ∧ byteAt (s.extract p s.size) k ≤ 57) := by
      rw [byteAt_ext]
      rcases hend with h | h
      · rw [byteAt_end s (p + k) (by omega)]; omega
      · rw [show p + k = j by omega, h]; omega
    have : numR (s.extract p s.size) (s.size - p - k) k n = (n, (k : Int)) := by
      cases s.size - p - k with
      | zero => rfl
      | succ f => exact if_neg hb
    rw [this, show j - p = k by omega]
  | succ f ih =>
    intro k n hk h0 h1
    have hkj : p + k < j := by omega
    have e1 : byteAt (s.extract p j) k = byteAt s (p + k) := by rw [byteAt_sub s p j k hj, if_pos hkj]
    have e2 : byteAt (s.extract p s.size) k = byteAt s (p + k) := byteAt_ext s p k
    have ef : s.size - p - k = (s.size - p - (k + 1)) + 1 := by omega
    by_cases hd : 48 ≤ byteAt s (p + k) ∧ byteAt s (p + k) ≤ 57
    · have eo : octG (s.extract p j) (f + 1) k n = octG (s.extract p j) f (k + 1) (10 * n + (byteAt s (p + k) - 48)) := by
        have : octG (s.extract p j) (f + 1) k n = octG (s.extract p j) f (k + 1) (10 * n + (byteAt (s.extract p j) k - 48)) := if_pos (by rw [e1]; exact hd)
        rw [e1] at this; exact this
      have en : numR (s.extract p s.size) (s.size - p - k) k n = if 255 < 10 * n + (byteAt s (p + k) - 48) then (0, 0) else if 10 * n + (byteAt s (p + k) - 48) = 0 then (0, (k : Int) + 1) else numR (s.extract p s.size) (s.size - p - (k + 1)) (k + 1) (10 * n + (byteAt s (p + k) - 48)) := by
        rw [ef]
        have : numR (s.extract p s.size) ((s.size - p - (k + 1)) + 1) k n = if 255 < 10 * n + (byteAt (s.extract p s.size) k - 48) then (0, 0) else if 10 * n + (byteAt (s.extract p s.size) k - 48) = 0 then (0, (k : Int) + 1) else numR (s.extract p s.size) (s.size - p - (k + 1)) (k + 1) (10 * n + (byteAt (s.extract p s.size) k - 48)) := if_pos (by rw [e2]; exact hd)
        rw [e2] at this; exact this
      rw [eo, en]
      by_cases hm : 255 < 10 * n + (byteAt s (p + k) - 48)
      · rw [if_pos hm]
        refine ⟨fun q => ?_, fun _ => Or.inl rfl⟩
        rcases octG_big (s.extract p j) f (k + 1) (10 * n + (byteAt s (p + k) - 48)) (by omega) with h | h
        · omega
        · exfalso
          have h10 : (1 : Int) ≤ 10 ^ f := Int.pow_pos (by omega)
          have h11 : (10 * n + (byteAt s (p + k) - 48)) * 1 ≤ (10 * n + (byteAt s (p + k) - 48)) * 10 ^ f := Int.mul_le_mul_of_nonneg_left h10 (by omega)
          omega
      · rw [if_neg hm, if_neg (by omega)]
        exact ih (k + 1) _ (by omega) (by omega) (by omega)
    · have eo : octG (s.extract p j) (f + 1) k n = -1 := if_neg (by rw [e1]; exact hd)
      have en : numR (s.extract p s.size) (s.size - p - k) k n = (n, (k : Int)) := by
        rw [ef]; exact if_neg (by rw [e2]; exact hd)
      rw [eo, en]
      exact ⟨fun q => by omega, fun _ => Or.inr ⟨k, rfl, hkj⟩⟩
/-- What number tells at p, of the piece from p up to j. -/
theorem num_piece (s : ByteArray) (p j : Nat) (hpj : p ≤ j) (hj : j ≤ s.size) (hend : j = s.size ∨ byteAt s j = 46) (hno : ∀ k, p ≤ k → k < j → ¬ byteAt s k = 46) :
    (0 ≤ octV (s.extract p j) → numV (s.extract p s.size) = octV (s.extract p j) ∧ numN (s.extract p s.size) = ((j - p : Nat) : Int) ∧ 1 ≤ j - p)
    ∧ (octV (s.extract p j) < 0 → numN (s.extract p s.size) = 0 ∨ ∃ z : Nat, numN (s.extract p s.size) = z ∧ p + z < j) := by
  have hsz : (s.extract p j).size = j - p := size_sub s p j hj
  have hsz2 : (s.extract p s.size).size = s.size - p := size_sub s p s.size (Nat.le_refl _)
  have e2 : ∀ k, byteAt (s.extract p s.size) k = byteAt s (p + k) := fun k => byteAt_ext s p k
  unfold numV numN octV
  rw [hsz, hsz2]
  by_cases hpe : p = j
  · subst hpe
    rw [if_pos (Or.inl (by omega))]
    refine ⟨fun q => by omega, fun _ => Or.inl ?_⟩
    have hb : ¬ (48 ≤ byteAt (s.extract p s.size) 0 ∧ byteAt (s.extract p s.size) 0 ≤ 57) := by
      rw [e2, Nat.add_zero]
      rcases hend with h | h
      · rw [byteAt_end s p (by omega)]; omega
      · rw [h]; omega
    have : numR (s.extract p s.size) (s.size - p) 0 0 = (0, 0) := by
      cases s.size - p with
      | zero => rfl
      | succ f => exact if_neg hb
    rw [this]
  have hlt : p < j := by omega
  have e1 : byteAt (s.extract p j) 0 = byteAt s p := by rw [byteAt_sub s p j 0 hj, if_pos (by omega), Nat.add_zero]
  have e20 : byteAt (s.extract p s.size) 0 = byteAt s p := by rw [e2, Nat.add_zero]
  obtain ⟨f, hf⟩ : ∃ f, s.size - p = f + 1 := ⟨s.size - p - 1, by omega⟩
  obtain ⟨g, hg⟩ : ∃ g, j - p = g + 1 := ⟨j - p - 1, by omega⟩
  by_cases hd : 48 ≤ byteAt s p ∧ byteAt s p ≤ 57
  · have en : numR (s.extract p s.size) (s.size - p) 0 0 = if 255 < 10 * 0 + (byteAt s p - 48) then (0, 0) else if 10 * 0 + (byteAt s p - 48) = 0 then (0, ((0 : Nat) : Int) + 1) else numR (s.extract p s.size) f 1 (10 * 0 + (byteAt s p - 48)) := by
      rw [hf]
      have : numR (s.extract p s.size) (f + 1) 0 0 = if 255 < 10 * 0 + (byteAt (s.extract p s.size) 0 - 48) then (0, 0) else if 10 * 0 + (byteAt (s.extract p s.size) 0 - 48) = 0 then (0, ((0 : Nat) : Int) + 1) else numR (s.extract p s.size) f 1 (10 * 0 + (byteAt (s.extract p s.size) 0 - 48)) := if_pos (by rw [e20]; exact hd)
      rw [e20] at this; exact this
    have eo : octG (s.extract p j) (j - p) 0 0 = octG (s.extract p j) g 1 (10 * 0 + (byteAt s p - 48)) := by
      rw [hg]
      have : octG (s.extract p j) (g + 1) 0 0 = octG (s.extract p j) g 1 (10 * 0 + (byteAt (s.extract p j) 0 - 48)) := if_pos (by rw [e1]; exact hd)
      rw [e1] at this; exact this
    rw [en, eo, if_neg (show ¬ (255 : Int) < 10 * 0 + (byteAt s p - 48) by omega)]
    by_cases hz : byteAt s p = 48
    · rw [if_pos (show 10 * (0 : Int) + (byteAt s p - 48) = 0 by omega)]
      by_cases h1 : 1 < j - p
      · rw [if_pos (Or.inr (Or.inr ⟨h1, by rw [e1]; exact hz⟩))]
        exact ⟨fun q => by omega, fun _ => Or.inr ⟨1, by simp, by omega⟩⟩
      · have hg0 : g = 0 := by omega
        rw [if_neg (by omega), hg0]
        have : octG (s.extract p j) 0 1 (10 * 0 + (byteAt s p - 48)) = 0 := by show 10 * 0 + (byteAt s p - 48) = 0; omega
        rw [this, if_neg (by omega)]
        exact ⟨fun _ => ⟨rfl, by simp; omega, by omega⟩, fun q => by omega⟩
    · rw [if_neg (show ¬ 10 * (0 : Int) + (byteAt s p - 48) = 0 by omega)]
      have hf1 : s.size - p - 1 = f := by omega
      have hon := num_on s p j hj hend g 1 (10 * 0 + (byteAt s p - 48)) (by omega) (by omega) (by omega)
      rw [hf1] at hon
      by_cases h3 : 3 < j - p
      · rw [if_pos (Or.inr (Or.inl h3))]
        refine ⟨fun q => by omega, fun _ => ?_⟩
        apply hon.2
        rcases octG_big (s.extract p j) g 1 (10 * 0 + (byteAt s p - 48)) (by omega) with h | h
        · omega
        · have h10 : (1000 : Int) ≤ 10 ^ g := by
            have : (10 : Int) ^ 3 ≤ 10 ^ g := by
              have : (10 : Nat) ^ 3 ≤ 10 ^ g := Nat.pow_le_pow_right (by omega) (by omega)
              exact_mod_cast this
            omega
          have h11 : 1 * 10 ^ g ≤ (10 * 0 + (byteAt s p - 48)) * 10 ^ g := Int.mul_le_mul_of_nonneg_right (by omega) (Int.pow_nonneg (by omega))
          omega
      · rw [if_neg (by rw [e1]; omega)]
        by_cases hb : 255 < octG (s.extract p j) g 1 (10 * 0 + (byteAt s p - 48))
        · rw [if_pos hb]
          exact ⟨fun q => by omega, fun _ => hon.2 (by omega)⟩
        · rw [if_neg hb]
          refine ⟨fun q => ?_, fun q => hon.2 (by omega)⟩
          have := hon.1 ⟨q, by omega⟩
          rw [this]
          exact ⟨rfl, rfl, by omega⟩
  · have en : numR (s.extract p s.size) (s.size - p) 0 0 = (0, 0) := by
      rw [hf]; exact if_neg (by rw [e20]; exact hd)
    have eo : octG (s.extract p j) (j - p) 0 0 = -1 := by
      rw [hg]; exact if_neg (by rw [e1]; exact hd)
    rw [en, eo]
    refine ⟨fun q => ?_, fun _ => Or.inl rfl⟩
    split at q <;> omega
end Go.Proofs.YtpchhfhdepkbcabDoor
/-
  Plain facts: readFour reads what the reference's dotted reads.
-/
namespace Go.Proofs.YtpchhfhdepkbcabDoor
open Go.RowKit
set_option linter.unusedSimpArgs false
set_option linter.unusedVariables false

def layP : Nat → BitVec 128 → List ByteArray → BitVec 128
  | _, x, [] => x
  | i, x, q :: r => layP (i + 1) (layW x i 8 (octV q)) r
theorem fourR_succ (s : ByteArray) (f i a : Nat) (x : BitVec 128) : fourR s (f + 1) i a x =
    if numN (s.extract a s.size) = 0 then (0#128, false)
    else if i = 3 then (layW x i 8 (numV (s.extract a s.size)), decide (a + (numN (s.extract a s.size)).toNat = s.size))
    else if a + (numN (s.extract a s.size)).toNat = s.size ∨ byteAt s (a + (numN (s.extract a s.size)).toNat) ≠ 46 then (0#128, false)
    else fourR s f (i + 1) (a + (numN (s.extract a s.size)).toNat + 1) (layW x i 8 (numV (s.extract a s.size))) := rfl

theorem four_pieces (s : ByteArray) : ∀ m i p x, i + m = 4 → 1 ≤ m → p ≤ s.size →
    ((fourR s m i p x).2 = true ↔ ((spl s 46 (s.size - p) p p).length = m ∧ ∀ q ∈ spl s 46 (s.size - p) p p, 0 ≤ octV q)) ∧ ((fourR s m i p x).2 = true → (fourR s m i p x).1 = layP i x (spl s 46 (s.size - p) p p)) := by
  intro m
  induction m with
  | zero => intro i p x _ h; omega
  | succ m ih =>
    intro i p x him _ hp
    obtain ⟨j, hpj, hj, hno, hw⟩ := spl_next s 46 p hp
    have hend : j = s.size ∨ byteAt s j = 46 := by
      rcases hw with ⟨h, -⟩ | ⟨-, h, -⟩
      · exact Or.inl h
      · exact Or.inr h
    have hnp := num_piece s p j hpj hj hend hno
    rw [fourR_succ]
    by_cases ho : 0 ≤ octV (s.extract p j)
    · obtain ⟨h1, h2, h3⟩ := hnp.1 ho
      rw [h1, h2, if_neg (by omega), Int.toNat_natCast, show p + (j - p) = j by omega]
      rcases hw with ⟨rfl, hs⟩ | ⟨hlt, hc, hs⟩
      · rw [hs]
        by_cases h3 : i = 3
        · subst h3
          have hm : m = 0 := by omega
          subst hm
          rw [if_pos rfl]
          refine ⟨⟨fun _ => ⟨rfl, fun q hq => ?_⟩, fun _ => by simp⟩, fun _ => rfl⟩
          have : q = s.extract p s.size := by simpa using hq
          subst this; exact ho
        · rw [if_neg h3, if_pos (Or.inl rfl)]
          refine ⟨⟨fun q => by simp at q, fun q => ?_⟩, fun q => by simp at q⟩
          have : (1 : Nat) = m + 1 := by simpa using q.1
          omega
      · rw [hs]
        by_cases h3 : i = 3
        · subst h3
          have hm : m = 0 := by omega
          subst hm
          rw [if_pos rfl]
          have hl := (spl_len s 46 (s.size - (j + 1)) (j + 1) (j + 1)).1
          refine ⟨⟨fun q => ?_, fun q => ?_⟩, fun q => ?_⟩
          · simp at q; omega
          · have := q.1
            simp only [List.length_cons] at this; omega
          · simp at q; omega
        · rw [if_neg h3, if_neg (by rw [hc]; simp; omega)]
          have hi := ih (i + 1) (j + 1) (layW x i 8 (octV (s.extract p j))) (by omega) (by omega) (by omega)
          refine ⟨⟨fun q => ?_, fun q => ?_⟩, fun q => ?_⟩
          · obtain ⟨a, b⟩ := hi.1.mp q
            refine ⟨by simp [a], fun u hu => ?_⟩
            rcases List.mem_cons.mp hu with rfl | hu
            · exact ho
            · exact b u hu
          · exact hi.1.mpr ⟨by simpa using q.1, fun u hu => q.2 u (List.mem_cons_of_mem _ hu)⟩
          · rw [hi.2 q]; rfl
    · have hbad : ¬ ((spl s 46 (s.size - p) p p).length = m + 1 ∧ ∀ q ∈ spl s 46 (s.size - p) p p, 0 ≤ octV q) := by
        rintro ⟨-, h⟩
        apply ho
        rcases hw with ⟨rfl, hs⟩ | ⟨_, _, hs⟩
        · exact h _ (by rw [hs]; simp)
        · exact h _ (by rw [hs]; simp)
      have hF : (if numN (s.extract p s.size) = 0 then ((0#128, false) : BitVec 128 × Bool)
          else if i = 3 then (layW x i 8 (numV (s.extract p s.size)), decide (p + (numN (s.extract p s.size)).toNat = s.size))
          else if p + (numN (s.extract p s.size)).toNat = s.size ∨ byteAt s (p + (numN (s.extract p s.size)).toNat) ≠ 46 then (0#128, false)
          else fourR s m (i + 1) (p + (numN (s.extract p s.size)).toNat + 1) (layW x i 8 (numV (s.extract p s.size)))).2 = false := by
        rcases hnp.2 (by omega) with h0 | ⟨z, hz, hzj⟩
        · rw [if_pos h0]
        · rw [hz, Int.toNat_natCast]
          split
          · rfl
          · split
            · simp; omega
            · rw [if_pos (Or.inr (hno (p + z) (by omega) hzj))]
      refine ⟨⟨fun q => ?_, fun q => absurd q hbad⟩, fun q => ?_⟩
      · rw [hF] at q; cases q
      · rw [hF] at q; cases q

theorem dotG_all : ∀ (l : List ByteArray) (v : Int), (∀ q ∈ l, 0 ≤ octV q) → dotG l v = some (l.foldl (fun v q => 256 * v + octV q) v) := by
  intro l
  induction l with
  | nil => intro v _; rfl
  | cons q l ih =>
    intro v h
    have : dotG (q :: l) v = dotG l (256 * v + octV q) := if_neg (by have := h q (by simp); omega)
    rw [this, ih _ (fun u hu => h u (List.mem_cons_of_mem _ hu))]; rfl
theorem dotG_not : ∀ (l : List ByteArray) (v : Int), ¬ (∀ q ∈ l, 0 ≤ octV q) → dotG l v = none := by
  intro l
  induction l with
  | nil => intro v h; exact absurd (fun q hq => by cases hq) h
  | cons q l ih =>
    intro v h
    by_cases hq : octV q < 0
    · exact if_pos hq
    · have : dotG (q :: l) v = dotG l (256 * v + octV q) := if_neg hq
      rw [this]
      apply ih
      intro hl
      apply h
      intro u hu
      rcases List.mem_cons.mp hu with rfl | hu
      · omega
      · exact hl u hu
theorem or_sum (A B : Int) (i : Nat) (h0 : 0 ≤ A) (h1 : 0 ≤ B) (h2 : B < 2 ^ i) (h3 : A * 2 ^ i + B < 18446744073709551616) : bits .or .u64 (A * 2 ^ i) B = A * 2 ^ i + B := by
  obtain ⟨a, rfl⟩ := Int.eq_ofNat_of_zero_le h0
  obtain ⟨b, rfl⟩ := Int.eq_ofNat_of_zero_le h1
  have h2' : b < 2 ^ i := by exact_mod_cast h2
  have h3' : a * 2 ^ i + b < 18446744073709551616 := by
    have : ((a * 2 ^ i + b : Nat) : Int) < 18446744073709551616 := by rw [Int.natCast_add, Int.natCast_mul, Int.natCast_pow]; exact h3
    omega
  have e1 : ((a : Int) * 2 ^ i) = ((BitVec.ofNat 64 (a * 2 ^ i)).toNat : Int) := by
    rw [BitVec.toNat_ofNat, Nat.mod_eq_of_lt (by omega), Int.natCast_mul, Int.natCast_pow]; rfl
  have e2 : (b : Int) = ((BitVec.ofNat 64 b).toNat : Int) := by
    rw [BitVec.toNat_ofNat, Nat.mod_eq_of_lt (by omega)]
  have k := Nat.shiftLeft_add_eq_or_of_lt h2' a
  rw [Nat.shiftLeft_eq] at k
  have e3 : bits .or .u64 ((a : Int) * 2 ^ i) (b : Int) = (((BitVec.ofNat 64 (a * 2 ^ i)) ||| (BitVec.ofNat 64 b)).toNat : Int) := by
    rw [e1, e2]; exact bits64or _ _ _ rfl
  rw [e3, BitVec.toNat_or, BitVec.toNat_ofNat, BitVec.toNat_ofNat, Nat.mod_eq_of_lt (by omega), Nat.mod_eq_of_lt (by omega), ← k, Int.natCast_add, Int.natCast_mul, Int.natCast_pow]
  rfl
theorem lay8_h (x : BitVec 128) (i v : Int) (h0 : 0 ≤ i) (h1 : i ≤ 3) (v0 : 0 ≤ v) (v1 : v ≤ 255) : hI (layW x i 8 v) = bits .or .u64 (hI x) (IntKind.u64.wrap (v * 2 ^ (56 - 8 * i).toNat)) := by
  unfold layW
  rw [← or_h, ← shl_h2 (mkW 0 v) (128 - 8 * (i + 1)).toNat (by omega) (by omega), lI_mk 0 v v0 (by omega), show (128 - 8 * (i + 1)).toNat - 64 = (56 - 8 * i).toNat by omega]
theorem lay8_l (x : BitVec 128) (i v : Int) (h0 : 0 ≤ i) (h1 : i ≤ 3) (hx : lI x = 0) : lI (layW x i 8 v) = 0 := by
  unfold layW
  rw [← or_l, shl_l2 _ _ (by omega), hx]; decide
theorem wrapS (v : Int) (h0 : 0 ≤ v) (h1 : v < 18446744073709551616) : IntKind.u64.wrap v = v := by
  simp [IntKind.wrap, IntKind.bits, IntKind.signed]; omega
theorem lay8_step (x : BitVec 128) (i : Nat) (P v : Int) (hi : i ≤ 3) (p0 : 0 ≤ P) (p1 : P < 256 ^ i) (v0 : 0 ≤ v) (v1 : v ≤ 255) (hx : hI x = P * 2 ^ (64 - 8 * i)) : hI (layW x i 8 v) = (256 * P + v) * 2 ^ (56 - 8 * i) := by
  rw [lay8_h x i v (by omega) (by omega) v0 v1, hx]
  rcases (by omega : i = 0 ∨ i = 1 ∨ i = 2 ∨ i = 3) with rfl | rfl | rfl | rfl
  · have : P = 0 := by simp at p1; omega
    subst this
    rw [show ((56 : Int) - 8 * ((0 : Nat) : Int)).toNat = 56 by decide, wrapS _ (by omega) (by omega)]
    have := or_sum 0 (v * 2 ^ 56) 64 (by omega) (by omega) (by omega) (by omega)
    simp only [Int.zero_mul, Int.zero_add, Int.mul_zero] at this ⊢
    exact this
  · rw [show ((56 : Int) - 8 * ((1 : Nat) : Int)).toNat = 48 by decide, wrapS _ (by omega) (by omega)]
    simp only [show 64 - 8 * 1 = 56 by omega, show 56 - 8 * 1 = 48 by omega]
    have hp : P < 256 := by simpa using p1
    rw [or_sum P (v * 2 ^ 48) 56 (by omega) (by omega) (by omega) (by omega)]; omega
  · rw [show ((56 : Int) - 8 * ((2 : Nat) : Int)).toNat = 40 by decide, wrapS _ (by omega) (by omega)]
    simp only [show 64 - 8 * 2 = 48 by omega, show 56 - 8 * 2 = 40 by omega]
    have hp : P < 65536 := by simpa using p1
    rw [or_sum P (v * 2 ^ 40) 48 (by omega) (by omega) (by omega) (by omega)]; omega
  · rw [show ((56 : Int) - 8 * ((3 : Nat) : Int)).toNat = 32 by decide, wrapS _ (by omega) (by omega)]
    simp only [show 64 - 8 * 3 = 40 by omega, show 56 - 8 * 3 = 32 by omega]
    have hp : P < 16777216 := by simpa using p1
    rw [or_sum P (v * 2 ^ 32) 40 (by omega) (by omega) (by omega) (by omega)]; omega
theorem lay_all (a b c d : ByteArray) (ha : 0 ≤ octV a) (hb : 0 ≤ octV b) (hc : 0 ≤ octV c) (hd : 0 ≤ octV d) :
    layP 0 0#128 [a, b, c, d] = mkW (([a, b, c, d].foldl (fun v q => 256 * v + octV q) 0) * 4294967296) 0 := by
  have Ba := octV_bd a
  have Bb := octV_bd b
  have Bc := octV_bd c
  have Bd := octV_bd d
  show layW (layW (layW (layW 0#128 (0 : Nat) 8 (octV a)) (1 : Nat) 8 (octV b)) (2 : Nat) 8 (octV c)) (3 : Nat) 8 (octV d) = mkW ((256 * (256 * (256 * (256 * 0 + octV a) + octV b) + octV c) + octV d) * 4294967296) 0
  generalize octV a = A at *
  generalize octV b = B at *
  generalize octV c = C at *
  generalize octV d = D at *
  have s1 := lay8_step 0#128 0 0 A (by omega) (by omega) (by decide) ha (by omega) (by rw [hI_zero]; rfl)
  have s2 := lay8_step _ 1 (256 * 0 + A) B (by omega) (by omega) (by simp; omega) hb (by omega) s1
  have s3 := lay8_step _ 2 (256 * (256 * 0 + A) + B) C (by omega) (by omega) (by simp; omega) hc (by omega) s2
  have s4 := lay8_step _ 3 (256 * (256 * (256 * 0 + A) + B) + C) D (by omega) (by omega) (by simp; omega) hd (by omega) s3
  apply eq_ints
  · rw [s4, hI_mk _ _ (by omega) (by omega)]; rfl
  · rw [lI_mk _ _ (by omega) (by omega)]
    exact lay8_l _ 3 _ (by omega) (by omega) (lay8_l _ 2 _ (by omega) (by omega) (lay8_l _ 1 _ (by omega) (by omega) (lay8_l _ 0 _ (by omega) (by omega) lI_zero)))
theorem four_eq (s : ByteArray) : fourB s = (dotO s).isSome ∧ ∀ u, dotO s = some u → fourV s = mkW (u * 4294967296) 0 := by
  have h := four_pieces s 4 0 0 0#128 (by omega) (by omega) (by omega)
  rw [Nat.sub_zero] at h
  unfold fourB fourV dotO
  by_cases hg : (spl s 46 s.size 0 0).length = 4 ∧ ∀ q ∈ spl s 46 s.size 0 0, 0 ≤ octV q
  · have hb := h.1.mpr hg
    rw [if_pos hg.1, dotG_all _ _ hg.2, hb]
    refine ⟨rfl, fun u hu => ?_⟩
    injection hu with hu
    rw [h.2 hb, ← hu]
    match hL : spl s 46 s.size 0 0, hg with
    | [a, b, c, d], hg => exact lay_all a b c d (hg.2 a (by simp)) (hg.2 b (by simp)) (hg.2 c (by simp)) (hg.2 d (by simp))
  · have hb : (fourR s 4 0 0 0#128).2 = false := by
      cases hx : (fourR s 4 0 0 0#128).2 with
      | false => rfl
      | true => exact absurd (h.1.mp hx) hg
    rw [hb]
    by_cases hl : (spl s 46 s.size 0 0).length = 4
    · rw [if_pos hl, dotG_not _ _ (fun q => hg ⟨hl, q⟩)]
      exact ⟨rfl, fun u hu => by cases hu⟩
    · rw [if_neg hl]
      exact ⟨rfl, fun u hu => by cases hu⟩
end Go.Proofs.YtpchhfhdepkbcabDoor
