/-
  What the call of turnpikelaw2's octets does; rows of eight groups.
-/
import Derived.Test.YtldjeabdoooihaaFormQ
import Derived.Test.YtldjeabdoooihaaAdrP
import Derived.Test.YtldjeabdoooihaaRefZ
namespace Go.Proofs.Ytldjeabdoooihaa
open Go.RowKit
set_option linter.unusedSimpArgs false
set_option linter.unusedVariables false

theorem quadL_eq (a b c d : Nat) : bL (decL a) ++ ⟨#[46]⟩ ++ bL (decL b) ++ ⟨#[46]⟩ ++ bL (decL c) ++ ⟨#[46]⟩ ++ bL (decL d) = bL (quadL a b c d) := by
  apply ByteArray.ext
  simp [bL, quadL, jn]
theorem decB (n : Nat) (h : n < 256) : (bL (decL n)).size ≤ 20 := (decL_bd n (by omega)).2
set_option maxHeartbeats 2000000 in
theorem octets_any (a b : Nat) (w : World) (ha : a < 65536) (hb : b < 65536) :
    Calls Try.prog 20 #[.int .i64 a, .int .i64 b] w fun e w' => e = .returned (.string (bL (quadL (a / 256) (a % 256) (b / 256) (b % 256)))) ∧ Below w.heap.size w w' := by
  have HT : Hid _ := quadL_eq (a / 256) (a % 256) (b / 256) (b % 256)
  have Da := fun w => decimal_any (a / 256) w (by omega)
  have Db := fun w => decimal_any (a % 256) w (by omega)
  have Dc := fun w => decimal_any (b / 256) w (by omega)
  have Dd := fun w => decimal_any (b % 256) w (by omega)
  have za := decB (a / 256) (by omega)
  have zb := decB (a % 256) (by omega)
  have zc := decB (b / 256) (by omega)
  have zd := decB (b % 256) (by omega)
  have ea : ((a / 256 : Nat) : Int) = (a : Int) / 256 := by omega
  have eb : ((a % 256 : Nat) : Int) = (a : Int) % 256 := by omega
  have ec : ((b / 256 : Nat) : Int) = (b : Int) / 256 := by omega
  have ed : ((b % 256 : Nat) : Int) = (b : Int) % 256 := by omega
  rw [ea] at Da
  rw [eb] at Db
  rw [ec] at Dc
  rw [ed] at Dd
  change ∀ w, Calls _ _ _ w fun e w' => e = .returned (.string (bL (decL (a / 256)))) ∧ _ at Da
  change ∀ w, Calls _ _ _ w fun e w' => e = .returned (.string (bL (decL (a % 256)))) ∧ _ at Db
  change ∀ w, Calls _ _ _ w fun e w' => e = .returned (.string (bL (decL (b / 256)))) ∧ _ at Dc
  change ∀ w, Calls _ _ _ w fun e w' => e = .returned (.string (bL (decL (b % 256)))) ∧ _ at Dd
  generalize bL (quadL (a / 256) (a % 256) (b / 256) (b % 256)) = T at *
  generalize bL (decL (a / 256)) = SA at *
  generalize bL (decL (a % 256)) = SB at *
  generalize bL (decL (b / 256)) = SC at *
  generalize bL (decL (b % 256)) = SD at *
  clear ea eb ec ed
  go_enter Try.func20, Try.ntmps20
  go_wp2_with fail
  refine (Da _).mono ?_
  rintro e w2 ⟨rfl, hb2⟩
  go_wp2_with fail
  refine (Db _).mono ?_
  rintro e w3 ⟨rfl, hb3⟩
  go_wp2_with fail
  refine (Dc _).mono ?_
  rintro e w4 ⟨rfl, hb4⟩
  go_wp2_with fail
  refine (Dd _).mono ?_
  rintro e w5 ⟨rfl, hb5⟩
  clear Da Db Dc Dd
  have kB := keepb hb5 (keepb hb4 (keepb hb3 hb2))
  clear hb2 hb3 hb4 hb5
  go_wp2
  go_ret
  exact ⟨by rw [← HT.out]; rfl, kB⟩

def RowG (W : World) (g : Nat) (G : Nat → Int) : Prop := ∀ k, k < 8 → W.cell? ⟨g, k, none⟩ = some (.int .i64 (G k)) ∧ W.frozen? ⟨g, k, none⟩ = false
theorem RowG.below {W W' : World} {g : Nat} {G : Nat → Int} (h : RowG W g G) (hb : Below W.heap.size W W') : RowG W' g G := fun k hk => ⟨keepc hb (h k hk).1, keepf hb (h k hk).1 (h k hk).2⟩
theorem RowG.other {W : World} {g : Nat} {G : Nat → Int} (h : RowG W g G) {C : Nat} (hn : ¬ C = g) (o : Nat) (v : Value) : RowG (W.setCell ⟨C, o, none⟩ v) g G := fun k hk => by
  obtain ⟨h1, h2⟩ := h k hk
  exact ⟨cell_wother h1 hn v, by simp [go_sem, h2]⟩
theorem RowG.put {W : World} {g : Nat} {G : Nat → Int} (h : RowG W g G) (i : Nat) (hi : i < 8) (v : Int) : RowG (W.setCell ⟨g, i, none⟩ (.int .i64 v)) g (upd G i v) := fun k hk => by
  obtain ⟨h1, h2⟩ := h k hk
  refine ⟨?_, by simp [go_sem, h2]⟩
  by_cases e : i = k
  · subst e
    rw [World.cell?_setCell_same W ⟨g, i, none⟩ _ h1]
    unfold upd; simp
  · rw [World.cell?_setCell_other W ⟨g, i, none⟩ ⟨g, k, none⟩ _ (by simp [e]), h1]
    unfold upd
    rw [if_neg (by omega)]
theorem grpX_all (x : BitVec 128) (k : Nat) : 0 ≤ grpX x k ∧ grpX x k ≤ 65535 := by
  unfold grpX readW
  exact part16_bd x (k : Int)
theorem forms_parse (T : ByteArray) (L : List Int) (h : rsO T = some L) (w : World) :
    Calls Try.prog 7 #[.int .i64 128, .string T] w fun e w' => e = .returned (.tuple #[.agg #[.int .u64 (hI (gW L 8)), .int .u64 (lI (gW L 8))], .int .i64 0]) ∧ Below w.heap.size w w' := by
  have hs := rs_short T L h
  have hf : fam 128 = true := by decide
  have e1 : apV 128 T = gW L 8 := by
    rw [(parse_eq 128 T).1]
    unfold rpV
    rw [if_neg (by rw [hf]; simp; omega), if_neg (by decide), h]; rfl
  have e2 : apE 128 T = 0 := by
    rw [(parse_eq 128 T).2]
    unfold rpE
    rw [if_neg (by rw [hf]; simp), if_neg (by omega), if_neg (by decide), h]; rfl
  have := aparse_any 128 T w (by unfold maxLen; omega)
  rw [e1, e2] at this
  exact this
/-- The pieces of the law's text. -/
def pcB (u : Bool) (E : Nat) (G : Nat → Int) (k : Nat) : ByteArray := bL (digL u (E + 1) (G k).toNat)
def qdB (G : Nat → Int) : ByteArray := bL (quadL ((G 6).toNat / 256) ((G 6).toNat % 256) ((G 7).toNat / 256) ((G 7).toNat % 256))
theorem form_text (u : Bool) (E A B : Nat) (G : Nat → Int) (q : Bool) (hE : E ≤ 3) (hAB : A + B ≤ 8) (hG : ∀ k, 0 ≤ G k ∧ G k ≤ 65535) (hz : ∀ k, A ≤ k → k < A + B → G k = 0) (hq : q = true → (B = 0 ∨ A + B ≤ 6)) :
    rsO (fmG (pcB u E G) (qdB G) q A B 9 0 ⟨#[]⟩) = some ((List.range' 0 8).map G) := by
  have h6 := hG 6
  have h7 := hG 7
  refine fm_reads (fun k => digL u (E + 1) (G k).toNat) G _ q A B (fun k => ?_) hz hAB hq (quad_no _ _ _ _ (by omega) (by omega) (by omega) (by omega)) ?_ h7
  · have hk := hG k
    have := dig_pc u (E + 1) (G k).toNat (by omega) (by omega) (by omega)
    rw [Int.toNat_of_nonneg hk.1] at this
    exact this
  · rw [dot_quad _ _ _ _ (by omega) (by omega) (by omega) (by omega)]
    congr 1
    omega
end Go.Proofs.Ytldjeabdoooihaa
