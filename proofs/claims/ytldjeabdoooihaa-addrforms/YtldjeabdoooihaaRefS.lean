/-
  What the call of turnpikeref2's split does.
-/
import Derived.Test.YtldjeabdoooihaaRefR
import Derived.Deep.AppendLies
import Derived.OwnWalk
import Derived.Laws.OwnMore
namespace Go.Proofs.Ytldjeabdoooihaa
open Go.RowKit
set_option linter.unusedSimpArgs false
set_option linter.unusedVariables false

theorem rowBelow {base e size n : Nat} {v : Value} {xs : List Value} {W w' : World} (hb : Below W.heap.size W w') (h : W.ownsRow base e size v n xs) : w'.ownsRow base e size v n xs := by
  refine h.kept (row := none) ⟨hb.os, hb.tape, hb.output, hb.size, fun k hk _ => hb.block k hk⟩ ?_
  cases v.ownBlock with
  | none => exact Or.inl rfl
  | some a => exact Or.inr (by simp)
theorem newsS (W : World) (v : Value) (t : TypeId) : ∀ j u, [v][j]? = some u → (W.alloc (.cells #[v] t)).cell? ((⟨W.heap.size, 0, none⟩ : Addr).add j) = some u := by
  intro j u hj
  match j, hj with
  | 0, hj => simp at hj; subst hj; simp [Addr.add, go_sem]
theorem oneS (s : ByteArray) : ∀ u ∈ [Value.string s], u.oneCell' = true := by
  intro u hu; simp at hu; subst hu; rfl
theorem Try.infoS : (Try.prog.info? 9).map (fun i => (i.zero, i.size, i.bytes)) = some (some (.string ByteArray.empty), 1, 16) := by kernel_rfl

/-- The pieces of a text between the bytes c, from place i on, the piece at hand having begun at p. -/
def spl (t : ByteArray) (c : Int) : Nat → Nat → Nat → List ByteArray
  | 0, p, _ => [t.extract p t.size]
  | f + 1, p, i => if byteAt t i = c then t.extract p i :: spl t c f (i + 1) (i + 1) else spl t c f p (i + 1)
def strs (l : List ByteArray) : List Value := l.map Value.string

set_option maxHeartbeats 4000000 in
theorem split_any (t : ByteArray) (c : Int) (w : World) (hs : t.size ≤ 1000) (c0 : 0 ≤ c) (c1 : c ≤ 255) :
    Calls Try.prog 50 #[.string t, .int .u8 c] w fun e w' => (∃ g cap, e = .returned (.slice (some ⟨g, 0, none⟩) (spl t c t.size 0 0).length cap) ∧ w'.ownsRow w.heap.size 9 1 (.slice (some ⟨g, 0, none⟩) (spl t c t.size 0 0).length cap) (spl t c t.size 0 0).length (strs (spl t c t.size 0 0))) ∧ Below w.heap.size w w' := by
  obtain ⟨i0, hi, hz0, hz1, hz2⟩ := info_parts Try.infoS
  go_enter Try.func50, Try.ntmps50
  go_wp2
  go_loopw [5, 6, 7] (fun a b d wr => ∃ (k p : Nat) (xs : List ByteArray), b = .int .i64 p ∧ d = .int .i64 k ∧ p ≤ k ∧ k ≤ t.size ∧ xs.length ≤ k ∧ Hid (xs ++ spl t c (t.size - k) p k = spl t c t.size 0 0) ∧ wr.ownsRow w.heap.size 9 1 a xs.length (strs xs) ∧ Below w.heap.size w wr) (fun _ _ d _ => t.size - (intOf d).toNat)
  case atStart => exact ⟨0, 0, [], rfl, rfl, by omega, by omega, by simp, rfl, World.ownsRow_nil _ _ _ _, Below.refl _ _⟩
  case round =>
    obtain ⟨k, p, xs, rfl, rfl, hp, hk, hx, HR, hown, hB⟩ := hrel
    have hBs := hB.size
    have h63 : xs.length + 1 ≤ maxLen := by unfold maxLen; omega
    have h47 : (xs.length + 1) * 16 ≤ 140737488355328 := by omega
    by_cases hlt : k < t.size
    · have hbt := byteAt_in t k hlt
      have hk2 : (k : Int) < (t.size : Int) := by omega
      have hpk : (p : Int) ≤ (k : Int) := by omega
      have hkt : (k : Int) ≤ (t.size : Int) := by omega
      have HU : Hid (t.size - k = (t.size - (k + 1)) + 1) := by show _ = _; omega
      have HS : Hid (∀ f, spl t c (f + 1) p k = if byteAt t k = c then t.extract p k :: spl t c f (k + 1) (k + 1) else spl t c f p (k + 1)) := fun _ => rfl
      generalize byteAt t k = b at *
      by_cases hd : b = c
      · have HF : Hid ((xs ++ [t.extract p k]) ++ spl t c (t.size - (k + 1)) (k + 1) (k + 1) = spl t c t.size 0 0) := by
          show _ = _
          rw [← HR.out, HU.out, HS.out, if_pos hd, List.append_assoc]; rfl
        subst hd
        clear HS HU HR
        go_wp2_with (first | (at_builtin; refine wpList_append_lies _ rfl _ _ 73 rfl w.heap.size 9 i0 (.string ByteArray.empty) 1 16 Try.underlying73 hi hz0 hz1 hz2 rfl (by decide) _ _ _ rfl (hown.alloc _) ⟨wr.heap.size, 0, none⟩ 1 1 [.string (t.extract p k)] rfl rfl (newsS _ _ _) (oneS _) (by decide) h63 h47 (by simp; omega) _ rfl ?_; intro g cap w4 hown4 hgrow hat hlt4))
        have kB4 : Below w.heap.size w w4 := (hB.alloc hBs _).grown hgrow (by simp; omega) (fun q hq => (hown.lt q hq).1)
        clear hgrow hat
        go_roundw
        case rel => exact ⟨k + 1, k + 1, xs ++ [t.extract p k], by go_num, by go_num, by omega, by omega, by simp; omega, HF, by simpa [strs] using hown4, kB4⟩
        case measure => simp [intOf]; omega
      · have HF : Hid (xs ++ spl t c (t.size - (k + 1)) p (k + 1) = spl t c t.size 0 0) := by
          show _ = _
          rw [← HR.out, HU.out, HS.out, if_neg hd]
        have hdb : (b == c) = false := by simp [hd]
        clear HS HU HR
        go_wp2
        go_roundw
        case rel => exact ⟨k + 1, p, xs, rfl, by go_num, by omega, by omega, by omega, HF, hown, hB⟩
        case measure => simp [intOf]; omega
    · have hk2 : ¬ (k : Int) < (t.size : Int) := by omega
      have hpt : (p : Int) ≤ (t.size : Int) := by omega
      have HF : Hid (xs ++ [t.extract p t.size] = spl t c t.size 0 0) := by
        show _ = _
        have e : t.size - k = 0 := by omega
        rw [← HR.out, e]; rfl
      clear HR
      go_wp2_with (first | (at_builtin; refine wpList_append_lies _ rfl _ _ 73 rfl w.heap.size 9 i0 (.string ByteArray.empty) 1 16 Try.underlying73 hi hz0 hz1 hz2 rfl (by decide) _ _ _ rfl (hown.alloc _) ⟨wr.heap.size, 0, none⟩ 1 1 [.string (t.extract p t.size)] rfl rfl (newsS _ _ _) (oneS _) (by decide) h63 h47 (by simp; omega) _ rfl ?_; intro g cap w4 hown4 hgrow hat hlt4))
      have kB4 : Below w.heap.size w w4 := (hB.alloc hBs _).grown hgrow (by simp; omega) (fun q hq => (hown.lt q hq).1)
      clear hgrow hat
      go_ret
      refine ⟨⟨g, cap, ?_, ?_⟩, kB4⟩
      · rw [← HF.out]; simp
      · rw [← HF.out]; simpa [strs] using hown4
end Go.Proofs.Ytldjeabdoooihaa
