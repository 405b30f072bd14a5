/-
  What the call of turnpikeref2's groups does.
-/
import Derived.Test.YtldjeabdoooihaaRefU
import Derived.Deep.Onto
namespace Go.Proofs.Ytldjeabdoooihaa
open Go.RowKit
set_option linter.unusedSimpArgs false
set_option linter.unusedVariables false

theorem dotG_bd : ∀ (l : List ByteArray) (v u : Int), 0 ≤ v → dotG l v = some u → 0 ≤ u ∧ u < (v + 1) * 256 ^ l.length := by
  intro l
  induction l with
  | nil => intro v u h e; simp [dotG] at e; subst e; simp; omega
  | cons p l ih =>
    intro v u h e
    unfold dotG at e
    split at e
    · cases e
    · have ob := octV_bd p
      have := ih (256 * v + octV p) u (by omega) e
      refine ⟨this.1, ?_⟩
      have h2 : (256 * v + octV p + 1) * 256 ^ l.length ≤ ((v + 1) * 256) * 256 ^ l.length := Int.mul_le_mul_of_nonneg_right (by omega) (Int.pow_nonneg (by omega))
      rw [List.length_cons, Int.pow_succ, Int.mul_comm (256 ^ l.length), ← Int.mul_assoc]
      omega
theorem dotO_bd (t : ByteArray) (u : Int) (h : dotO t = some u) : 0 ≤ u ∧ u < 4294967296 := by
  unfold dotO at h
  split at h
  · rename_i hl
    have := dotG_bd _ 0 u (by omega) h
    rw [hl] at this
    exact ⟨this.1, by have := this.2; simpa using this⟩
  · cases h
theorem and16 (v : Int) (h0 : 0 ≤ v) (h1 : v < 4294967296) : bits .and .u64 v 65535 = v % 65536 := by
  obtain ⟨n, rfl⟩ := Int.eq_ofNat_of_zero_le h0
  have e1 : (n : Int) = ((BitVec.ofNat 64 n).toNat : Int) := by simp [BitVec.toNat_ofNat]; omega
  have e2 : (65535 : Int) = ((BitVec.ofNat 64 65535).toNat : Int) := by decide
  rw [e1, e2, bits64and _ _ _ rfl, BitVec.toNat_and, BitVec.toNat_ofNat, BitVec.toNat_ofNat, Nat.mod_eq_of_lt (by omega), show 65535 % 2 ^ 64 = 2 ^ 16 - 1 by decide, Nat.and_two_pow_sub_one_eq_mod]
  rfl
/-- The groups of the pieces, behind those that are there. -/
def gsG (last : Bool) : List ByteArray → List Int → Option (List Int)
  | [], acc => some acc
  | q :: rest, acc =>
    if last = true ∧ rest = [] ∧ (dotO q).isSome = true then some (acc ++ [(dotO q).getD 0 / 65536, (dotO q).getD 0 % 65536])
    else if grV q < 0 then none else gsG last rest (acc ++ [grV q])
def gsO (t : ByteArray) (last : Bool) : Option (List Int) := if t.size = 0 then some [] else gsG last (spl t 58 t.size 0 0) []
def ints (l : List Int) : List Value := l.map (Value.int .i64)
theorem spl_len (t : ByteArray) (c : Int) : ∀ f p i, 1 ≤ (spl t c f p i).length ∧ (spl t c f p i).length ≤ f + 1 := by
  intro f
  induction f with
  | zero => intro p i; exact ⟨by show 1 ≤ 1; omega, by show 1 ≤ 1; omega⟩
  | succ f ih =>
    intro p i
    unfold spl
    split
    · have := ih (i + 1) (i + 1)
      simp only [List.length_cons]; omega
    · have := ih p (i + 1)
      omega
theorem Try.infoI : (Try.prog.info? 3).map (fun i => (i.zero, i.size, i.bytes)) = some (some (.int .i64 0), 1, 8) := by kernel_rfl
theorem oneI (n : Int) : ∀ u ∈ [Value.int .i64 n], u.oneCell' = true := by
  intro u hu; simp at hu; subst hu; rfl
theorem twoI (n m : Int) : ∀ u ∈ [Value.int .i64 n, Value.int .i64 m], u.oneCell' = true := by
  intro u hu; simp at hu; rcases hu with rfl | rfl <;> rfl
theorem newsT (W : World) (a b : Value) (t : TypeId) : ∀ j u, [a, b][j]? = some u → (W.alloc (.cells #[a, b] t)).cell? ((⟨W.heap.size, 0, none⟩ : Addr).add j) = some u := by
  intro j u hj
  match j, hj with
  | 0, hj => simp at hj; subst hj; simp [Addr.add, go_sem]
  | 1, hj => simp at hj; subst hj; simp [Addr.add, go_sem]

theorem empty_is (t : ByteArray) : t.toList.isEmpty = decide (t.size = 0) := by
  rw [Lib.toList_data, Lib.size_eq]
  cases t.data.toList <;> simp

set_option maxHeartbeats 8000000 in
theorem groups_any (t : ByteArray) (last : Bool) (w : World) (hs : t.size ≤ 1000) :
    Calls Try.prog 28 #[.string t, .bool last] w fun e w' => ((gsO t last = none ∧ e = .returned (.tuple #[.slice none 0 0, .bool false])) ∨ (∃ xs ao cap, gsO t last = some xs ∧ e = .returned (.tuple #[.slice ao xs.length cap, .bool true]) ∧ w'.ownsRow w.heap.size 3 1 (.slice ao xs.length cap) xs.length (ints xs))) ∧ Below w.heap.size w w' := by
  obtain ⟨i0, hi, hz0, hz1, hz2⟩ := info_parts Try.infoI
  by_cases h0 : t.size = 0
  · have he : t.toList.isEmpty = true := by rw [empty_is]; simp [h0]
    have HG : Hid (gsO t last = some []) := if_pos h0
    go_enter Try.func28, Try.ntmps28
    go_wp2
    go_ret2
    exact ⟨Or.inr ⟨[], none, 0, HG.out, rfl, World.ownsRow_nil _ _ _ _⟩, Below.refl _ _⟩
  have he : t.toList.isEmpty = false := by rw [empty_is]; simp [h0]
  have KS := fun w => split_any t 58 w hs (by omega) (by omega)
  have hsz := spl_size t 58 t.size 0 0
  have hln := spl_len t 58 t.size 0 0
  have HG : Hid (gsO t last = gsG last (spl t 58 t.size 0 0) []) := if_neg h0
  generalize spl t 58 t.size 0 0 = l at *
  go_enter Try.func28, Try.ntmps28
  go_wp2_with fail
  refine (KS _).mono ?_
  rintro e w1 ⟨⟨g, cap, rfl, hown⟩, hB⟩
  clear KS
  have hrow : Hid (∀ k (hk : k < l.length), w1.cell? ⟨g, k, none⟩ = some (.string l[k])) := fun k hk => row_get hown rfl k hk
  have hg := (hown.lt g rfl).2
  have hB1 := hB.size
  clear hown
  go_wp2
  go_loopw [6, 8] (fun a b wr => ∃ (k : Nat) (acc : List Int) (ao : Option Addr) (cp : Nat), a = .slice ao acc.length cp ∧ b = .int .i64 k ∧ k ≤ l.length ∧ acc.length ≤ k ∧ Hid (gsG last (l.drop k) acc = gsG last l []) ∧ wr.ownsRow w1.heap.size 3 1 (.slice ao acc.length cp) acc.length (ints acc) ∧ Hid (∀ k (hk : k < l.length), wr.cell? ⟨g, k, none⟩ = some (.string l[k])) ∧ Below w.heap.size w wr ∧ w1.heap.size ≤ wr.heap.size) (fun _ b _ => l.length - (intOf b).toNat)
  case atStart => exact ⟨0, [], none, 0, rfl, rfl, by omega, by simp, rfl, World.ownsRow_nil _ _ _ _, hrow, hB, Nat.le_refl _⟩
  case round =>
    clear hrow hB
    obtain ⟨k, acc, ao, cp, rfl, rfl, hk, ha, HR, hown, hrow, hB, hw1⟩ := hrel
    have hBs := hB.size
    by_cases hlt : k < l.length
    · have hk2 : (k : Int) < (l.length : Int) := by omega
      have hcell := hrow.out k hlt
      have HD : Hid (l.drop k = l[k] :: l.drop (k + 1)) := List.drop_eq_getElem_cons hlt
      have hqs : l[k].size ≤ 1000 := by have := hsz l[k] (List.getElem_mem hlt); omega
      have HL : Hid (l.drop (k + 1) = [] ↔ k + 1 = l.length) := by
        show _ ↔ _
        rw [List.drop_eq_nil_iff]; omega
      have HS : Hid (gsG last (l.drop k) acc = if last = true ∧ l.drop (k + 1) = [] ∧ (dotO l[k]).isSome = true then some (acc ++ [(dotO l[k]).getD 0 / 65536, (dotO l[k]).getD 0 % 65536]) else if grV l[k] < 0 then none else gsG last (l.drop (k + 1)) (acc ++ [grV l[k]])) := by
        show _ = _
        rw [HD.out]; rfl
      have KDt := fun w => dotted_any l[k] w hqs
      have KGr := fun w => rgroup_any l[k] w (by unfold maxLen; omega)
      have HDB : Hid (∀ u, dotO l[k] = some u → 0 ≤ u ∧ u < 4294967296) := dotO_bd l[k]
      have HQ : Hid (∀ h : k < l.length, l[k] = l[k]'h) := fun _ => rfl
      obtain ⟨q, hq⟩ : ∃ q, l[k] = q := ⟨_, rfl⟩
      rw [hq] at hcell hqs HS KDt KGr HDB
      clear HD HQ
      have h63 : acc.length + 1 ≤ maxLen := by unfold maxLen; omega
      have h47 : (acc.length + 1) * 8 ≤ 140737488355328 := by omega
      have h632 : acc.length + 2 ≤ maxLen := by unfold maxLen; omega
      have h472 : (acc.length + 2) * 8 ≤ 140737488355328 := by omega
      by_cases hla : last = true ∧ k + 1 = l.length
      · obtain ⟨rfl, hkl⟩ := hla
        have hkl2 : (l.length : Int) - 1 = (k : Int) := by omega
        have hu : IntKind.i64.wrap (k : Int) = (k : Int) := by rw [IntKind.wrap_i64]; omega
        cases hdo : dotO q with
        | none =>
          have HSG : Hid (gsG true (l.drop k) acc = if grV q < 0 then none else gsG true (l.drop (k + 1)) (acc ++ [grV q])) := by
            show _ = _
            rw [HS.out, hdo, if_neg (by simp)]
          rw [hdo] at KDt
          clear HS HDB hdo HL
          generalize grV q = n at *
          go_wp2_with fail
          refine (KDt _).mono ?_
          rintro e w2 ⟨rfl, hb2⟩
          clear KDt hcell
          have hown := rowBelow hb2 hown
          have hrow : Hid (∀ k (hk : k < l.length), w2.cell? ⟨g, k, none⟩ = some (.string l[k])) := fun k hk => keepc hb2 (hrow.out k hk)
          have hcell := hrow.out k hlt
          have hw1 : w1.heap.size ≤ w2.heap.size := Nat.le_trans hw1 hb2.size
          have hB := keepb hb2 hB
          have hBs := hB.size
          clear hb2
          by_cases hn : n < 0
          · have HF : Hid (gsO t true = none) := by show _ = _; rw [HG.out, ← HR.out, HSG.out, if_pos hn]
            clear HSG HR
            go_wp2_with fail
            refine (KGr _).mono ?_
            rintro e w3 ⟨rfl, rfl⟩
            clear KGr
            go_wp2
            go_ret2
            first | exact ⟨Or.inl ⟨HF.out, rfl⟩, hB⟩ | exact ⟨Or.inl HF.out, hB⟩
          · have HF : Hid (gsG true (l.drop (k + 1)) (acc ++ [n]) = gsG true l []) := by show _ = _; rw [← HR.out, HSG.out, if_neg hn]
            clear HSG HR
            go_wp2_with fail
            refine (KGr _).mono ?_
            rintro e w3 ⟨rfl, hw3⟩
            rw [hw3]; clear hw3 KGr
            go_wp2_with (first | (at_builtin; refine wpList_append_lies _ rfl _ _ 42 rfl w1.heap.size 3 i0 (.int .i64 0) 1 8 Try.underlying42 hi hz0 hz1 hz2 rfl (by decide) _ _ _ rfl (hown.alloc _) ⟨w2.heap.size, 0, none⟩ 1 1 [.int .i64 n] rfl rfl (newsS _ _ _) (oneI _) (by decide) h63 h47 (by simp; omega) _ rfl ?_; intro g4 cap4 w4 hown4 hgrow hat hlt4))
            have hne : some g ≠ (Value.slice ao acc.length cp).ownBlock := fun e => by have := (hown.lt g e.symm).1; omega
            have kB4 : Below w.heap.size w w4 := (hB.alloc hBs _).grown hgrow (by simp; omega) (fun q hq => by have := (hown.lt q hq).1; omega)
            have hrow4 : Hid (∀ k (hk : k < l.length), w4.cell? ⟨g, k, none⟩ = some (.string l[k])) := fun k hk => hgrow.cell (keepc (bl1 _ _) (hrow.out k hk)) hne
            have hs4 : w1.heap.size ≤ w4.heap.size := by have := hgrow.size; simp at this; omega
            clear hgrow hat hne
            go_roundw
            case rel => exact ⟨k + 1, acc ++ [n], some ⟨g4, 0, none⟩, cap4, by simp, by go_num, by omega, by simp; omega, HF, by simpa [ints] using hown4, hrow4, kB4, hs4⟩
            case measure => simp [intOf]; omega
        | some v =>
          obtain ⟨v0, v1⟩ := HDB.out v hdo
          have HF : Hid (gsO t true = some (acc ++ [v / 65536, v % 65536])) := by
            show _ = _
            rw [HG.out, ← HR.out, HS.out, hdo, if_pos ⟨rfl, HL.out.mpr hkl, rfl⟩]; rfl
          have KD2 : ∀ w, Calls Try.prog 26 #[.string q] w fun e w' => e = .returned (.tuple #[.int .u64 v, .bool true]) ∧ Below w.heap.size w w' := by
            rw [hdo] at KDt; exact KDt
          have hand := and16 v v0 v1
          clear HS HDB hdo HL HR KGr KDt
          go_wp2_with fail
          refine (KD2 _).mono ?_
          rintro e w2 ⟨rfl, hb2⟩
          clear KD2 hcell hrow
          have hown := rowBelow hb2 hown
          have hw1 : w1.heap.size ≤ w2.heap.size := Nat.le_trans hw1 hb2.size
          have hB := keepb hb2 hB
          have hBs := hB.size
          clear hb2
          go_wp2_with (first | (at_builtin; refine wpList_append_lies _ rfl _ _ 42 rfl w1.heap.size 3 i0 (.int .i64 0) 1 8 Try.underlying42 hi hz0 hz1 hz2 rfl (by decide) _ _ _ rfl (hown.alloc _) ⟨w2.heap.size, 0, none⟩ 2 2 [.int .i64 (v / 65536), .int .i64 (v % 65536)] rfl rfl (newsT _ _ _ _) (twoI _ _) (by decide) h632 h472 (by simp; omega) _ rfl ?_; intro g4 cap4 w4 hown4 hgrow hat hlt4))
          have kB4 : Below w.heap.size w w4 := (hB.alloc hBs _).grown hgrow (by simp; omega) (fun q hq => by have := (hown.lt q hq).1; omega)
          clear hgrow hat
          go_ret2
          refine ⟨Or.inr ?_, kB4⟩
          have hl2 : (acc ++ [v / 65536, v % 65536]).length = acc.length + 2 := by simp
          refine ⟨acc ++ [v / 65536, v % 65536], some ⟨g4, 0, none⟩, cap4, HF.out, by rw [hl2]; rfl, ?_⟩
          rw [hl2]
          refine World.ownsRow.mono (base := w1.heap.size) ?_ hB1
          simpa [ints] using hown4
      · have HSG : Hid (gsG last (l.drop k) acc = if grV q < 0 then none else gsG last (l.drop (k + 1)) (acc ++ [grV q])) := by
          show _ = _
          rw [HS.out, if_neg]
          rintro ⟨a1, a2, -⟩
          exact hla ⟨a1, HL.out.mp a2⟩
        have hkl2 : last = true → ¬ (k : Int) = (l.length : Int) - 1 := fun a1 e => hla ⟨a1, by omega⟩
        have hu : IntKind.i64.wrap ((l.length : Int) - 1) = (l.length : Int) - 1 := by rw [IntKind.wrap_i64]; omega
        clear HS HDB HL KDt hla
        generalize grV q = n at *
        cases last
        · clear hkl2
          by_cases hn : n < 0
          · have HF : Hid (gsO t false = none) := by show _ = _; rw [HG.out, ← HR.out, HSG.out, if_pos hn]
            clear HSG HR
            go_wp2_with fail
            refine (KGr _).mono ?_
            rintro e w3 ⟨rfl, rfl⟩
            clear KGr
            go_wp2
            go_ret2
            first | exact ⟨Or.inl ⟨HF.out, rfl⟩, hB⟩ | exact ⟨Or.inl HF.out, hB⟩
          · have HF : Hid (gsG false (l.drop (k + 1)) (acc ++ [n]) = gsG false l []) := by show _ = _; rw [← HR.out, HSG.out, if_neg hn]
            clear HSG HR
            go_wp2_with fail
            refine (KGr _).mono ?_
            rintro e w3 ⟨rfl, hw3⟩
            rw [hw3]; clear hw3 KGr
            go_wp2_with (first | (at_builtin; refine wpList_append_lies _ rfl _ _ 42 rfl w1.heap.size 3 i0 (.int .i64 0) 1 8 Try.underlying42 hi hz0 hz1 hz2 rfl (by decide) _ _ _ rfl (hown.alloc _) ⟨wr.heap.size, 0, none⟩ 1 1 [.int .i64 n] rfl rfl (newsS _ _ _) (oneI _) (by decide) h63 h47 (by simp; omega) _ rfl ?_; intro g4 cap4 w4 hown4 hgrow hat hlt4))
            have hne : some g ≠ (Value.slice ao acc.length cp).ownBlock := fun e => by have := (hown.lt g e.symm).1; omega
            have kB4 : Below w.heap.size w w4 := (hB.alloc hBs _).grown hgrow (by simp; omega) (fun q hq => by have := (hown.lt q hq).1; omega)
            have hrow4 : Hid (∀ k (hk : k < l.length), w4.cell? ⟨g, k, none⟩ = some (.string l[k])) := fun k hk => hgrow.cell (keepc (bl1 _ _) (hrow.out k hk)) hne
            have hs4 : w1.heap.size ≤ w4.heap.size := by have := hgrow.size; simp at this; omega
            clear hgrow hat hne
            go_roundw
            case rel => exact ⟨k + 1, acc ++ [n], some ⟨g4, 0, none⟩, cap4, by simp, by go_num, by omega, by simp; omega, HF, by simpa [ints] using hown4, hrow4, kB4, hs4⟩
            case measure => simp [intOf]; omega
        · have hkl3 : ((k : Int) == (l.length : Int) - 1) = false := by simp; exact hkl2 rfl
          clear hkl2
          by_cases hn : n < 0
          · have HF : Hid (gsO t true = none) := by show _ = _; rw [HG.out, ← HR.out, HSG.out, if_pos hn]
            clear HSG HR
            go_wp2_with fail
            refine (KGr _).mono ?_
            rintro e w3 ⟨rfl, rfl⟩
            clear KGr
            go_wp2
            go_ret2
            first | exact ⟨Or.inl ⟨HF.out, rfl⟩, hB⟩ | exact ⟨Or.inl HF.out, hB⟩
          · have HF : Hid (gsG true (l.drop (k + 1)) (acc ++ [n]) = gsG true l []) := by show _ = _; rw [← HR.out, HSG.out, if_neg hn]
            clear HSG HR
            go_wp2_with fail
            refine (KGr _).mono ?_
            rintro e w3 ⟨rfl, hw3⟩
            rw [hw3]; clear hw3 KGr
            go_wp2_with (first | (at_builtin; refine wpList_append_lies _ rfl _ _ 42 rfl w1.heap.size 3 i0 (.int .i64 0) 1 8 Try.underlying42 hi hz0 hz1 hz2 rfl (by decide) _ _ _ rfl (hown.alloc _) ⟨wr.heap.size, 0, none⟩ 1 1 [.int .i64 n] rfl rfl (newsS _ _ _) (oneI _) (by decide) h63 h47 (by simp; omega) _ rfl ?_; intro g4 cap4 w4 hown4 hgrow hat hlt4))
            have hne : some g ≠ (Value.slice ao acc.length cp).ownBlock := fun e => by have := (hown.lt g e.symm).1; omega
            have kB4 : Below w.heap.size w w4 := (hB.alloc hBs _).grown hgrow (by simp; omega) (fun q hq => by have := (hown.lt q hq).1; omega)
            have hrow4 : Hid (∀ k (hk : k < l.length), w4.cell? ⟨g, k, none⟩ = some (.string l[k])) := fun k hk => hgrow.cell (keepc (bl1 _ _) (hrow.out k hk)) hne
            have hs4 : w1.heap.size ≤ w4.heap.size := by have := hgrow.size; simp at this; omega
            clear hgrow hat hne
            go_roundw
            case rel => exact ⟨k + 1, acc ++ [n], some ⟨g4, 0, none⟩, cap4, by simp, by go_num, by omega, by simp; omega, HF, by simpa [ints] using hown4, hrow4, kB4, hs4⟩
            case measure => simp [intOf]; omega
    · have hk2 : ¬ (k : Int) < (l.length : Int) := by omega
      have HF : Hid (gsO t last = some acc) := by
        show _ = _
        rw [HG.out, ← HR.out, List.drop_of_length_le (by omega)]; rfl
      clear HR
      go_wp2
      go_ret2
      refine ⟨Or.inr ?_, hB⟩
      have hmono := World.ownsRow.mono hown hB1
      first | exact ⟨acc, ao, cp, HF.out, rfl, hmono⟩ | exact ⟨acc, HF.out, ao, cp, rfl, hmono⟩ | exact ⟨acc, HF.out, ao, cp, ⟨rfl, rfl, rfl⟩, hmono⟩
end Go.Proofs.Ytldjeabdoooihaa
