/-
  A text as bytes and back; how long the reference's texts are.
-/
import Derived.Test.YtldjeabdoooihaaRefL
import Derived.Laws.IdiomStrings
namespace Go.Proofs.Ytldjeabdoooihaa
open Go.RowKit
set_option linter.unusedSimpArgs false
set_option linter.unusedVariables false

theorem sepS_size (S : ByteArray) : (sepS S).size ≤ S.size + 1 := by
  unfold sepS
  split
  · omega
  · rw [ByteArray.size_append]; exact Nat.le_refl _
theorem txG_size (G : Nat → Int) (a b : Nat) (hb : 1 ≤ b) (hab : a + b ≤ 8) (hG : ∀ k, k < 8 → 0 ≤ G k ∧ G k ≤ 65535) : ∀ f i (S : ByteArray), i ≤ 8 → 8 < i + f → S.size ≤ 5 * i → (i = 0 ∨ 1 ≤ S.size) → 1 ≤ (txG G a b f i S).size ∧ (txG G a b f i S).size ≤ 40 := by
  intro f
  induction f with
  | zero => intro i S h1 h2; omega
  | succ f ih =>
    intro i S hi hf hS h1
    show 1 ≤ (if _ then _ else _ : ByteArray).size ∧ (if _ then _ else _ : ByteArray).size ≤ 40
    split
    · omega
    · split
      · rename_i hg
        have hz : (S ++ ⟨#[58, 58]⟩ : ByteArray).size = S.size + 2 := by rw [ByteArray.size_append]; rfl
        exact ih (i + b) _ (by omega) (by omega) (by rw [hz]; omega) (Or.inr (by rw [hz]; omega))
      · have hg := hG i (by omega)
        have hl := hexL_len (G i).toNat (by omega)
        have hh : (⟨(hexL (G i).toNat).toArray⟩ : ByteArray).size = (hexL (G i).toNat).length := rfl
        have hz : (sepS S ++ ⟨(hexL (G i).toNat).toArray⟩ : ByteArray).size = (sepS S).size + (hexL (G i).toNat).length := by rw [ByteArray.size_append, hh]
        have := sepS_size S
        exact ih (i + 1) _ (by omega) (by omega) (by rw [hz]; omega) (Or.inr (by rw [hz]; omega))
theorem text6_size (x : BitVec 128) : 1 ≤ (text6 x).size ∧ (text6 x).size ≤ 40 := by
  have hb := bsG_bd (grpX x) 8 0 0 1 (by omega) (by omega) (by omega)
  exact txG_size (grpX x) _ _ hb.1 hb.2 (fun k hk => grpX_bd x k hk) 9 0 ⟨#[]⟩ (by omega) (by omega) (by decide) (Or.inl rfl)
theorem text4_size (x : BitVec 128) : 1 ≤ (text4 x).size ∧ (text4 x).size ≤ 100 := by
  have lt : ∀ k, octN x k < 256 := fun k => by unfold octN; omega
  have h0 := decL_bd (octN x 0) (by have := lt 0; omega)
  have h1 := decL_bd (octN x 1) (by have := lt 1; omega)
  have h2 := decL_bd (octN x 2) (by have := lt 2; omega)
  have h3 := decL_bd (octN x 3) (by have := lt 3; omega)
  unfold text4 dotS
  simp only [ByteArray.size_append]
  have e : ∀ l : List UInt8, (⟨l.toArray⟩ : ByteArray).size = l.length := fun _ => rfl
  have e1 : (⟨#[46]⟩ : ByteArray).size = 1 := rfl
  simp only [e]
  have e2 : (⟨#[46]⟩ : ByteArray).size = 1 := rfl
  have e3 : [(46 : UInt8)].length = 1 := rfl
  omega
def text2 (F : Int) (x : BitVec 128) : ByteArray := if rightE F x = 0 then (if F = 32 then text4 x else text6 x) else ⟨#[]⟩
theorem text2_size (F : Int) (x : BitVec 128) (h : rightE F x = 0) : 1 ≤ (text2 F x).size ∧ (text2 F x).size ≤ 100 := by
  unfold text2
  rw [if_pos h]
  split
  · exact text4_size x
  · have := text6_size x; omega
theorem rtext2_any (F : Int) (x : BitVec 128) (w : World) :
    Calls Try.prog 16 #[.int .i64 F, .agg #[.int .u64 (hI x), .int .u64 (lI x)]] w fun e w' => e = .returned (.tuple #[.string (text2 F x), .int .i64 (rightE F x)]) ∧ Below w.heap.size w w' := by
  unfold text2
  by_cases h : rightE F x = 0
  · have hf := (right0 F x h).1
    rw [if_pos h]
    rcases fam_ways F hf with rfl | rfl
    · rw [if_pos rfl, h]; exact rtext_four x w h
    · rw [if_neg (by decide), h]; exact rtext_six x w h
  · rw [if_neg h]; exact rtext_err F x w h

/-- '[]byte(s)'. -/
theorem str_bytes (s : ByteArray) (w : World) : ∃ cap W, (convert 9 40 (.string s)).run Try.prog w = .ok (.slice (some ⟨w.heap.size, 0, none⟩) s.size cap) W ∧ (∀ j, j < s.size → W.cell? ⟨w.heap.size, j, none⟩ = some (.int .u8 (byteAt s j)) ∧ W.frozen? ⟨w.heap.size, j, none⟩ = false) ∧ Below w.heap.size w W ∧ w.heap.size < W.heap.size := by
  refine ⟨_, _, run_bytes_of_string (P := Try.prog) w 9 40 5 s Try.underlying9 Try.underlying40 Try.underlying5, ?_, ?_, ?_⟩
  · intro j hj
    have hj' : j < s.data.size := hj
    have hb := bytesRow_at s (grownCap w s.size 0 5) j hj'
    have hbd : (s.data[j].toNat : Int) = byteAt s j := by
      have := byteAt_in s j hj
      exact this
    rw [hbd] at hb
    have hlt : j < (bytesRow s (grownCap w s.size 0 5)).size := by
      have := (Array.getElem?_eq_some_iff.mp hb).1
      exact this
    have hh := heap_alloc_new w.drew (.cells (bytesRow s (grownCap w s.size 0 5)) 5 ((bytesRow s (grownCap w s.size 0 5)).size, (bytesRow s (grownCap w s.size 0 5)).size + 1))
    have hh' : (w.drew.alloc (.cells (bytesRow s (grownCap w s.size 0 5)) 5 ((bytesRow s (grownCap w s.size 0 5)).size, (bytesRow s (grownCap w s.size 0 5)).size + 1))).heap[w.heap.size]? = some (.cells (bytesRow s (grownCap w s.size 0 5)) 5 ((bytesRow s (grownCap w s.size 0 5)).size, (bytesRow s (grownCap w s.size 0 5)).size + 1)) := hh
    refine ⟨?_, ?_⟩
    · unfold World.cell?
      rw [hh']
      exact hb
    · unfold World.frozen?
      rw [hh']
      simp; omega
  · exact (Below.refl _ _).drew.alloc (Nat.le_refl _) _
  · simp
end Go.Proofs.Ytldjeabdoooihaa
