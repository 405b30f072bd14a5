/-
  What the call of turnpikeref2's dotted does.
-/
import Derived.Test.YtldjeabdoooihaaRefS
namespace Go.Proofs.Ytldjeabdoooihaa
open Go.RowKit
set_option linter.unusedSimpArgs false
set_option linter.unusedVariables false

theorem octG_bd (t : ByteArray) : ∀ f k n, 0 ≤ n → -1 ≤ octG t f k n := by
  intro f
  induction f with
  | zero => intro k n h; show -1 ≤ n; omega
  | succ f ih =>
    intro k n h
    show -1 ≤ if _ then _ else _
    split
    · exact ih _ _ (by omega)
    · omega
theorem octV_bd (t : ByteArray) : -1 ≤ octV t ∧ octV t ≤ 255 := by
  unfold octV
  split
  · omega
  · have := octG_bd t t.size 0 0 (by omega)
    split <;> omega
theorem spl_size (t : ByteArray) (c : Int) : ∀ f p i, ∀ q ∈ spl t c f p i, q.size ≤ t.size := by
  intro f
  induction f with
  | zero =>
    intro p i q hq
    have : q = t.extract p t.size := by simpa [spl] using hq
    subst this; simp
  | succ f ih =>
    intro p i q hq
    unfold spl at hq
    split at hq
    · rcases List.mem_cons.mp hq with rfl | h
      · simp; omega
      · exact ih _ _ q h
    · exact ih _ _ q hq
/-- The numbers of the pieces as one. -/
def dotG : List ByteArray → Int → Option Int
  | [], v => some v
  | p :: l, v => if octV p < 0 then none else dotG l (256 * v + octV p)
def dotO (t : ByteArray) : Option Int := if (spl t 46 t.size 0 0).length = 4 then dotG (spl t 46 t.size 0 0) 0 else none

theorem row_get {w : World} {base e g n cap : Nat} {l : List ByteArray} (h : w.ownsRow base e 1 (.slice (some ⟨g, 0, none⟩) n cap) n (strs l)) (hn : n = l.length) (k : Nat) (hk : k < n) : w.cell? ⟨g, k, none⟩ = some (.string (l[k]'(by omega))) := by
  rw [h.cellAt k (by omega)]
  unfold strs
  rw [List.getElem?_map, List.getElem?_eq_getElem (by omega)]
  rfl

set_option maxHeartbeats 4000000 in
theorem dotted_any (t : ByteArray) (w : World) (hs : t.size ≤ 1000) :
    Calls Try.prog 26 #[.string t] w fun e w' => e = .returned (.tuple #[.int .u64 ((dotO t).getD 0), .bool (dotO t).isSome]) ∧ Below w.heap.size w w' := by
  have KS := fun w => split_any t 46 w hs (by omega) (by omega)
  have hsz := spl_size t 46 t.size 0 0
  unfold dotO
  generalize spl t 46 t.size 0 0 = l at *
  by_cases h4 : l.length = 4
  · rw [if_pos h4]
    have HL : Hid (l.length = 4) := h4
    simp only [h4] at KS
    clear h4
    go_enter Try.func26, Try.ntmps26
    go_wp2_with fail
    refine (KS _).mono ?_
    rintro e w1 ⟨⟨g, cap, rfl, hown⟩, hB⟩
    clear KS
    have hrow := fun k hk => row_get hown HL.out.symm k hk
    clear hown
    go_wp2
    go_loopw [5, 6] (fun a b wr => ∃ (k : Nat) (v : Int), a = .int .u64 v ∧ b = .int .i64 k ∧ k ≤ 4 ∧ 0 ≤ v ∧ Hid (v < 256 ^ k) ∧ Hid (dotG (l.drop k) v = dotG l 0) ∧ wr = w1) (fun _ b _ => 4 - (intOf b).toNat)
    case atStart => exact ⟨0, 0, rfl, rfl, by omega, by omega, by show (0 : Int) < 1; omega, rfl, rfl⟩
    case round =>
      obtain ⟨k, v, rfl, rfl, hk, v0, HV, HR, rfl⟩ := hrel
      have HP : Hid ((256 : Int) ^ k ≤ 4294967296) := by
        show _ ≤ _
        rcases (by omega : k = 0 ∨ k = 1 ∨ k = 2 ∨ k = 3 ∨ k = 4) with rfl | rfl | rfl | rfl | rfl <;> decide
      have v1 : v < 4294967296 := by have := HV.out; have := HP.out; omega
      by_cases hlt : k < 4
      · have hk2 : (k : Int) < 4 := by omega
        have hcell := hrow k hlt
        have hkl : k < l.length := by rw [HL.out]; exact hlt
        have HD : Hid (l.drop k = l[k] :: l.drop (k + 1)) := List.drop_eq_getElem_cons hkl
        have KO := fun w => octet_any l[k] w (by have := hsz l[k] (List.getElem_mem hkl); unfold maxLen; omega)
        have ob := octV_bd l[k]
        have HS : Hid (dotG (l.drop k) v = if octV l[k] < 0 then none else dotG (l.drop (k + 1)) (256 * v + octV l[k])) := by
          show _ = _
          rw [HD.out]; rfl
        clear hrow HD
        generalize octV l[k] = n at *
        generalize l[k] = q at *
        go_wp2_with fail
        refine (KO _).mono ?_
        rintro e w2 ⟨rfl, rfl⟩
        clear KO
        by_cases hn : n < 0
        · have HF : Hid (dotG l 0 = none) := by show _ = _; rw [← HR.out, HS.out, if_pos hn]
          clear HS HR HV HP
          go_wp2
          go_ret2
          exact ⟨by rw [HF.out]; rfl, hB⟩
        · have HF : Hid (dotG (l.drop (k + 1)) (256 * v + n) = dotG l 0) := by show _ = _; rw [← HR.out, HS.out, if_neg hn]
          have HV2 : Hid (256 * v + n < 256 ^ (k + 1)) := by
            show _ < _
            have := HV.out
            rw [Int.pow_succ]; omega
          clear HS HR HV HP
          go_wp2
          go_roundw
          case rel => exact ⟨k + 1, 256 * v + n, by go_num, by go_num, by omega, by omega, HV2, HF, trivial⟩
          case measure => simp [intOf]; omega
      · have hk4 : k = 4 := by omega
        subst hk4
        have HF : Hid (dotG l 0 = some v) := by
          show _ = _
          rw [← HR.out, List.drop_of_length_le (by rw [HL.out]; omega)]; rfl
        clear HR HV HP hrow
        go_wp2
        go_ret2
        exact ⟨by rw [HF.out]; rfl, hB⟩
  · rw [if_neg h4]
    have h4' : ((l.length : Int) != 4) = true := by simp; omega
    go_enter Try.func26, Try.ntmps26
    go_wp2_with fail
    refine (KS _).mono ?_
    rintro e w1 ⟨⟨g, cap, rfl, hown⟩, hB⟩
    clear KS hown
    go_wp2
    go_ret2
    exact ⟨rfl, hB⟩
end Go.Proofs.Ytldjeabdoooihaa
