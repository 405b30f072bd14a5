/-
  Part 14 of the proof: 2 texts, one behind the other.
-/
import Derived.Test.YtpchhfhdepkbcabDoorPart13
import Derived.Test.YtpchhfhdepkbcabDoorPart10
import Derived.Test.YtpchhfhdepkbcabDoorPart7
import Derived.Test.YtpchhfhdepkbcabDoorPart12
/-
  What the call of turnpikeref2's Text does, of the family 128.
-/
namespace Go.Proofs.YtpchhfhdepkbcabDoor
open Go.RowKit
set_option linter.unusedSimpArgs false
set_option linter.unusedVariables false

/-- How many groups from i on are 0, n being counted. -/
def rnG (G : Nat → Int) (i : Nat) : Nat → Nat → Nat
  | 0, n => n
  | f + 1, n => if i + n < 8 ∧ G (i + n) = 0 then rnG G i f (n + 1) else n
/-- The longest row of groups that are 0: where, and how many (1: none). -/
def bsG (G : Nat → Int) : Nat → Nat → Nat → Nat → Nat × Nat
  | 0, _, a, b => (a, b)
  | f + 1, i, a, b => if b < rnG G i 9 0 then bsG G f (i + 1) i (rnG G i 9 0) else bsG G f (i + 1) a b
def sepS (s : ByteArray) : ByteArray := if s.size = 0 ∨ byteAt s (s.size - 1) = 58 then s else s ++ ⟨#[58]⟩
/-- The groups written from i on, s being written. -/
def txG (G : Nat → Int) (a b : Nat) : Nat → Nat → ByteArray → ByteArray
  | 0, _, s => s
  | f + 1, i, s => if 8 ≤ i then s else if 1 < b ∧ i = a then txG G a b f (i + b) (s ++ ⟨#[58, 58]⟩) else txG G a b f (i + 1) (sepS s ++ ⟨(hexL (G i).toNat).toArray⟩)
def grpX (x : BitVec 128) (k : Nat) : Int := lI (readW x (16 * (k : Int)) 16)
def text6 (x : BitVec 128) : ByteArray := txG (grpX x) (bsG (grpX x) 8 0 0 1).1 (bsG (grpX x) 8 0 0 1).2 9 0 ⟨#[]⟩
theorem grpX_bd (x : BitVec 128) (k : Nat) (hk : k < 8) : 0 ≤ grpX x k ∧ grpX x k ≤ 65535 := by
  unfold grpX readW
  exact part16_bd x (k : Int)
theorem rnG_bd (G : Nat → Int) (i : Nat) (hi : i ≤ 8) : ∀ f n, i + n ≤ 8 → i + rnG G i f n ≤ 8 ∧ n ≤ rnG G i f n := by
  intro f
  induction f with
  | zero => intro n h; exact ⟨h, Nat.le_refl _⟩
  | succ f ih =>
    intro n h
    by_cases hc : i + n < 8 ∧ G (i + n) = 0
    · have e : rnG G i (f + 1) n = rnG G i f (n + 1) := if_pos hc
      rw [e]
      have := ih (n + 1) (by omega)
      omega
    · have e : rnG G i (f + 1) n = n := if_neg hc
      rw [e]; omega
def cellsG (x : BitVec 128) (k : Nat) : List Int := (List.range k).map (grpX x)
theorem cellsG_succ (x : BitVec 128) (k : Nat) : cellsG x (k + 1) = cellsG x k ++ [grpX x k] := by
  unfold cellsG; rw [List.range_succ, List.map_append]; rfl
theorem cellsG_get (x : BitVec 128) (k : Nat) (hk : k < 8) : (cellsG x 8).getD k 0 = grpX x k := by
  unfold cellsG
  rw [List.getD_eq_getElem?_getD, List.getElem?_map, List.getElem?_range hk]; rfl
theorem row_int2 {w : World} {base e g n cap : Nat} {l : List Int} (h : w.ownsRow base e 1 (.slice (some ⟨g, 0, none⟩) n cap) n (ints l)) (hn : n = l.length) (k : Nat) (hk : k < n) : w.cell? ⟨g, k, none⟩ = some (.int .i64 (l.getD k 0)) := by
  rw [h.cellAt k (by omega)]
  unfold ints
  rw [List.getElem?_map, List.getElem?_eq_getElem (by omega), List.getD_eq_getElem?_getD, List.getElem?_eq_getElem (by omega)]
  rfl

theorem At.gby {w w' : World} {B : Nat} {x : BitVec 128} {row : Option Nat} (h : At w B x) (hg : w.grownBy w' row) (hne : ¬ some B = row) : At w' B x := by
  obtain ⟨h0, h1, h2, h3, h4⟩ := h
  have hb := hg.block B h4 hne
  exact ⟨hg.cell h0 hne, hg.cell h1 hne, (World.frozen?_of_block (a := ⟨B, 0, none⟩) hb).trans h2, (World.frozen?_of_block (a := ⟨B, 1, none⟩) hb).trans h3, Nat.lt_of_lt_of_le h4 hg.size⟩
theorem bsG_bd (G : Nat → Int) : ∀ f i a b, i + f ≤ 8 → 1 ≤ b → a + b ≤ 8 → 1 ≤ (bsG G f i a b).2 ∧ (bsG G f i a b).1 + (bsG G f i a b).2 ≤ 8 := by
  intro f
  induction f with
  | zero => intro i a b _ h1 h2; exact ⟨h1, h2⟩
  | succ f ih =>
    intro i a b hi h1 h2
    by_cases hc : b < rnG G i 9 0
    · have e : bsG G (f + 1) i a b = bsG G f (i + 1) i (rnG G i 9 0) := if_pos hc
      rw [e]
      have := rnG_bd G i (by omega) 9 0 (by omega)
      exact ih _ _ _ (by omega) (by omega) (by omega)
    · have e : bsG G (f + 1) i a b = bsG G f (i + 1) a b := if_neg hc
      rw [e]
      exact ih _ _ _ (by omega) h1 h2

set_option maxHeartbeats 8000000 in
theorem rtext_six (x : BitVec 128) (w : World) (h : rightE 128 x = 0) :
    Calls Tryd.prog 41 #[.int .i64 128, .agg #[.int .u64 (hI x), .int .u64 (lI x)]] w fun e w' => e = .returned (.tuple #[.string (text6 x), .int .i64 0]) ∧ Below w.heap.size w w' := by
  obtain ⟨i0, hi, hz0, hz1, hz2⟩ := info_parts Tryd.infoI
  have KR := fun w => rright_any 128 x w
  rw [h] at KR
  clear h
  go_enter Tryd.func41, Tryd.ntmps41
  go_wp2_with fail
  refine (KR _).mono ?_
  rintro e w1 ⟨rfl, hb1⟩
  have X1 := (at_new w w.heap.size x 24 rfl).below hb1
  have kB1 := keepb hb1 (bl1 w _)
  clear hb1 KR
  go_wp2
  go_loopw [7, 8] (fun a b wr => ∃ (k : Nat) (ao : Option Addr) (cp : Nat), a = .slice ao k cp ∧ b = .int .i64 k ∧ k ≤ 8 ∧ wr.ownsRow (w.heap.size + 1) 3 1 (.slice ao k cp) k (ints (cellsG x k)) ∧ At wr w.heap.size x ∧ Below w.heap.size w wr) (fun _ b _ => 8 - (intOf b).toNat)
  case atStart => exact ⟨0, none, 0, rfl, rfl, by omega, World.ownsRow_nil _ _ _ _, X1, kB1⟩
  case round =>
    clear X1 kB1
    obtain ⟨k, ao, cp, rfl, rfl, hk, hown, X, kB⟩ := hrel
    have hXs := X.2.2.2.2
    by_cases hlt : k < 8
    · have hk2 : (k : Int) < 8 := by omega
      have hum : IntKind.i64.wrap (16 * (k : Int)) = 16 * (k : Int) := by rw [IntKind.wrap_i64]; omega
      have KF := fun w => rfield_in x (16 * (k : Int)) 16 w (by unfold fitB; simp; omega)
      have gb := grpX_bd x k hlt
      have HG : Hid (lI (readW x (16 * (k : Int)) 16) = grpX x k) := rfl
      have HC := cellsG_succ x k
      rw [HG.out] at KF
      generalize grpX x k = v at *
      generalize hI (readW x (16 * (k : Int)) 16) = vh at *
      have hcv : IntKind.i64.wrap v = v := by rw [IntKind.wrap_i64]; omega
      have h63 : k + 1 ≤ maxLen := by unfold maxLen; omega
      have h47 : (k + 1) * 8 ≤ 140737488355328 := by omega
      have HC2 : Hid (cellsG x (k + 1) = cellsG x k ++ [v]) := HC
      clear HC
      obtain ⟨x0, x1, -, -, -⟩ := id X
      go_wp2_with fail
      refine (KF _).mono ?_
      rintro e w5 ⟨rfl, hb5⟩
      clear KF x0 x1
      have X5 := (X.below hb5).below (bl1 _ (.cells #[.int .u64 vh, .int .u64 v] 24))
      have hown := (rowBelow hb5 hown).alloc (.cells #[.int .u64 vh, .int .u64 v] 24)
      have kB5 := (keepb hb5 kB).alloc (keepb hb5 kB).size (.cells #[.int .u64 vh, .int .u64 v] 24)
      have hs5 := hb5.size
      clear X kB hb5
      go_wp2_with (first | (at_builtin; refine wpList_append_lies _ rfl _ _ 93 rfl (w.heap.size + 1) 3 i0 (.int .i64 0) 1 8 Tryd.underlying93 hi hz0 hz1 hz2 rfl (by decide) _ _ _ rfl (hown.alloc _) ⟨w5.heap.size + 1, 0, none⟩ 1 1 [.int .i64 v] rfl rfl (by simpa using newsS (w5.alloc (.cells #[.int .u64 vh, .int .u64 v] 24)) (.int .i64 v) 3) (oneI _) (by decide) h63 h47 (by simp; omega) _ rfl ?_; intro g5 cap5 w6 hown5 hgrow hat hlt5))
      have kB6 : Below w.heap.size w w6 := (kB5.alloc kB5.size _).grown hgrow (by have := kB5.size; simp at this ⊢; omega) (fun q hq => by have := (hown.lt q hq).1; omega)
      have X6 := (X5.below (bl1 _ _)).gby hgrow (fun e => by have := (hown.lt _ e.symm).1; omega)
      clear hgrow hat
      go_roundw
      case rel => exact ⟨k + 1, some ⟨g5, 0, none⟩, cap5, rfl, by go_num, by omega, by rw [HC2.out]; simpa [ints] using hown5, X6, kB6⟩
      case measure => simp [intOf]; omega
    · have hk8 : k = 8 := by omega
      subst hk8
      obtain ⟨g, c2, hv, -, -⟩ := hown.form (by omega)
      have hv2 : ao = some ⟨g, 0, none⟩ ∧ cp = c2 := by
        injection hv with e1 e2 e3; exact ⟨e1, e3⟩
      obtain ⟨rfl, rfl⟩ := hv2
      have hrow : Hid (∀ k, k < 8 → wr.cell? ⟨g, k, none⟩ = some (.int .i64 (grpX x k))) := fun k hk => by
        rw [row_int2 hown (by simp [cellsG]) k hk, cellsG_get x k hk]
      have hG : Hid (∀ k, k < 8 → 0 ≤ grpX x k ∧ grpX x k ≤ 65535) := fun k hk => grpX_bd x k hk
      have HT : Hid (text6 x = txG (grpX x) (bsG (grpX x) 8 0 0 1).1 (bsG (grpX x) 8 0 0 1).2 9 0 ⟨#[]⟩) := rfl
      clear hown hv X hXs
      generalize grpX x = G at *
      go_wp2
      go_loopw [11, 12, 13] (fun p q r wz => ∃ (i a b : Nat), p = .int .i64 a ∧ q = .int .i64 b ∧ r = .int .i64 i ∧ i ≤ 8 ∧ 1 ≤ b ∧ a + b ≤ 8 ∧ Hid (bsG G (8 - i) i a b = bsG G 8 0 0 1) ∧ wz = wr) (fun _ _ r _ => 8 - (intOf r).toNat)
      case atStart => exact ⟨0, 0, 1, rfl, rfl, rfl, by omega, by omega, by omega, rfl, rfl⟩
      case round =>
        obtain ⟨i, a, b, rfl, rfl, rfl, hi8, hb1, hab, HR, rfl⟩ := hrel
        by_cases hlt : i < 8
        · have hi2 : (i : Int) < 8 := by omega
          have HU : Hid (8 - i = (8 - (i + 1)) + 1) := by show _ = _; omega
          have HS : Hid (∀ f, bsG G (f + 1) i a b = if b < rnG G i 9 0 then bsG G f (i + 1) i (rnG G i 9 0) else bsG G f (i + 1) a b) := fun _ => rfl
          have hrb := rnG_bd G i (by omega) 9 0 (by omega)
          go_wp2
          go_loopw [14] (fun p wz2 => ∃ n : Nat, p = .int .i64 n ∧ i + n ≤ 8 ∧ Hid (rnG G i (9 - n) n = rnG G i 9 0) ∧ wz2 = wr) (fun p _ => 9 - (intOf p).toNat)
          case atStart => exact ⟨0, rfl, by omega, rfl, rfl⟩
          case round =>
            obtain ⟨n, rfl, hn, HN, rfl⟩ := hrel
            have hui : IntKind.i64.wrap ((i : Int) + (n : Int)) = (i : Int) + (n : Int) := by rw [IntKind.wrap_i64]; omega
            have HUN : Hid (9 - n = (9 - (n + 1)) + 1) := by show _ = _; omega
            have HSN : Hid (∀ f, rnG G i (f + 1) n = if i + n < 8 ∧ G (i + n) = 0 then rnG G i f (n + 1) else n) := fun _ => rfl
            by_cases hc : i + n < 8
            · have hcell := hrow.out (i + n) hc
              have hc2 : (i : Int) + (n : Int) < 8 := by omega
              obtain ⟨m, HM⟩ : ∃ m, Hid (i + n = m) := ⟨_, rfl⟩
              have hm : (i : Int) + (n : Int) = (m : Int) := by have := HM.out; omega
              have hm2 : (m : Int) < 8 := by omega
              have hum : IntKind.i64.wrap (m : Int) = (m : Int) := by rw [IntKind.wrap_i64]; omega
              rw [HM.out] at hcell
              have HSN2 : Hid (rnG G i (9 - n) n = if G m = 0 then rnG G i (9 - (n + 1)) (n + 1) else n) := by
                show _ = _
                rw [HUN.out, HSN.out, HM.out]
                by_cases q : G m = 0
                · rw [if_pos ⟨by have := HM.out; omega, q⟩, if_pos q]
                · rw [if_neg (fun z => q z.2), if_neg q]
              generalize G m = v at *
              clear hui HUN HSN
              by_cases hv0 : v = 0
              · have HF : Hid (rnG G i (9 - (n + 1)) (n + 1) = rnG G i 9 0) := by show _ = _; rw [← HN.out, HSN2.out, if_pos hv0]
                subst hv0
                clear HSN2 HN
                go_wp2
                go_roundw
                case rel => exact ⟨n + 1, by go_num, by omega, HF, trivial⟩
                case measure => simp [intOf]; omega
              · have HF : Hid (rnG G i 9 0 = n) := by show _ = _; rw [← HN.out, HSN2.out, if_neg hv0]
                have hvb : (v == 0) = false := by simp [hv0]
                clear HSN2 HN
                by_cases hbn : b < n
                · have hbn2 : (b : Int) < (n : Int) := by omega
                  have HR2 : Hid (bsG G (8 - (i + 1)) (i + 1) i n = bsG G 8 0 0 1) := by show _ = _; rw [← HR.out, HU.out, HS.out, HF.out, if_pos hbn]
                  clear HR HS HU HF
                  go_wp2
                  go_roundw
                  case rel => exact ⟨i + 1, i, n, rfl, rfl, by go_num, by omega, by omega, by omega, HR2, trivial⟩
                  case measure => simp [intOf]; omega
                · have hbn2 : ¬ (b : Int) < (n : Int) := by omega
                  have HR2 : Hid (bsG G (8 - (i + 1)) (i + 1) a b = bsG G 8 0 0 1) := by show _ = _; rw [← HR.out, HU.out, HS.out, HF.out, if_neg hbn]
                  clear HR HS HU HF
                  go_wp2
                  go_roundw
                  case rel => exact ⟨i + 1, a, b, rfl, rfl, by go_num, by omega, by omega, by omega, HR2, trivial⟩
                  case measure => simp [intOf]; omega
            · have hc2 : ¬ (i : Int) + (n : Int) < 8 := by omega
              have HF : Hid (rnG G i 9 0 = n) := by show _ = _; rw [← HN.out, HUN.out, HSN.out, if_neg (fun z => hc z.1)]
              clear HUN HSN HN
              by_cases hbn : b < n
              · have hbn2 : (b : Int) < (n : Int) := by omega
                have HR2 : Hid (bsG G (8 - (i + 1)) (i + 1) i n = bsG G 8 0 0 1) := by show _ = _; rw [← HR.out, HU.out, HS.out, HF.out, if_pos hbn]
                clear HR HS HU HF
                go_wp2
                go_roundw
                case rel => exact ⟨i + 1, i, n, rfl, rfl, by go_num, by omega, by omega, by omega, HR2, trivial⟩
                case measure => simp [intOf]; omega
              · have hbn2 : ¬ (b : Int) < (n : Int) := by omega
                have HR2 : Hid (bsG G (8 - (i + 1)) (i + 1) a b = bsG G 8 0 0 1) := by show _ = _; rw [← HR.out, HU.out, HS.out, HF.out, if_neg hbn]
                clear HR HS HU HF
                go_wp2
                go_roundw
                case rel => exact ⟨i + 1, a, b, rfl, rfl, by go_num, by omega, by omega, by omega, HR2, trivial⟩
                case measure => simp [intOf]; omega
        · have hi8' : i = 8 := by omega
          subst hi8'
          have HB : Hid (bsG G 8 0 0 1 = (a, b)) := by show _ = _; rw [← HR.out]; rfl
          have HT2 : Hid (text6 x = txG G a b 9 0 ⟨#[]⟩) := by show _ = _; rw [HT.out, HB.out]
          clear HR HT HB
          go_wp2
          go_loopw [15, 16] (fun p q wz => ∃ (f i : Nat) (S : ByteArray), p = .string S ∧ q = .int .i64 i ∧ i ≤ 8 ∧ S.size ≤ 5 * i ∧ 8 < i + f ∧ Hid (txG G a b f i S = text6 x) ∧ Hid (∀ k, k < 8 → wz.cell? ⟨g, k, none⟩ = some (.int .i64 (G k))) ∧ Below w.heap.size w wz) (fun _ q _ => 8 - (intOf q).toNat)
          case atStart => exact ⟨9, 0, ⟨#[]⟩, rfl, rfl, by omega, by decide, by omega, HT2.out.symm, hrow, kB⟩
          case round =>
            clear hrow kB HT2
            obtain ⟨f, i, S, rfl, rfl, hi8, hS, hf, HX, hrow, kB⟩ := hrel
            obtain ⟨f, rfl⟩ : ∃ k, f = k + 1 := ⟨f - 1, by omega⟩
            have HS : Hid (txG G a b (f + 1) i S = if 8 ≤ i then S else if 1 < b ∧ i = a then txG G a b f (i + b) (S ++ ⟨#[58, 58]⟩) else txG G a b f (i + 1) (sepS S ++ ⟨(hexL (G i).toNat).toArray⟩)) := rfl
            by_cases hlt : i < 8
            · have hi2 : (i : Int) < 8 := by omega
              by_cases hgap : 1 < b ∧ i = a
              · obtain ⟨hb2, rfl⟩ := hgap
                have HF : Hid (txG G i b f (i + b) (S ++ ⟨#[58, 58]⟩) = text6 x) := by show _ = _; rw [← HX.out, HS.out, if_neg (by omega), if_pos ⟨hb2, rfl⟩]
                have hb3 : (1 : Int) < (b : Int) := by omega
                have hu1 : IntKind.i64.wrap ((i : Int) + (b : Int)) = (i : Int) + (b : Int) := by rw [IntKind.wrap_i64]; omega
                have hu2 : IntKind.i64.wrap ((i : Int) + (b : Int) - 1) = (i : Int) + (b : Int) - 1 := by rw [IntKind.wrap_i64]; omega
                have hsz : (S ++ ⟨#[58, 58]⟩ : ByteArray).size = S.size + 2 := by rw [ByteArray.size_append]; rfl
                clear HS HX
                go_wp2
                go_roundw
                case rel => exact ⟨f, i + b, S ++ ⟨#[58, 58]⟩, rfl, by go_num, by omega, by rw [hsz]; omega, by omega, HF, hrow, kB⟩
                case measure => simp [intOf]; omega
              · have HF : Hid (txG G a b f (i + 1) (sepS S ++ ⟨(hexL (G i).toNat).toArray⟩) = text6 x) := by show _ = _; rw [← HX.out, HS.out, if_neg (by omega), if_neg hgap]
                have hcell := hrow.out i hlt
                obtain ⟨v0, v1⟩ := hG.out i hlt
                obtain ⟨v, hv⟩ := Int.eq_ofNat_of_zero_le v0
                rw [hv] at hcell
                have KH := fun w => rhex_any v w (by omega)
                have hHb : (⟨(hexL v).toArray⟩ : ByteArray).size ≤ 4 := (hexL_len v (by omega)).2
                have HF2 : Hid (txG G a b f (i + 1) (sepS S ++ ⟨(hexL v).toArray⟩) = text6 x) := by
                  have := HF.out
                  rw [hv, Int.toNat_natCast] at this; exact this
                clear HF HS HX v0 v1 hv
                generalize (⟨(hexL v).toArray⟩ : ByteArray) = HV at *
                have hcond : Hid ((1 < b ∧ i = a) = False) := by show _ = _; simp [hgap]
                have hg2 : 1 < b → ¬ (i : Int) = (a : Int) := fun q e => hgap ⟨q, by omega⟩
                clear hgap
                by_cases h0 : S.size = 0
                · have hem : S.toList.isEmpty = true := by rw [empty_is]; simp [h0]
                  have HSep : Hid (sepS S = S) := by show _ = _; unfold sepS; rw [if_pos (Or.inl h0)]
                  rw [HSep.out] at HF2
                  have hz2 : (S ++ HV).size = S.size + HV.size := ByteArray.size_append
                  by_cases hb2 : 1 < b
                  · have hb3 : (1 : Int) < (b : Int) := by omega
                    have hne : ((i : Int) == (a : Int)) = false := by simp; have := hg2 hb2; omega
                    clear hg2
                    go_wp2_with fail
                    refine (KH _).mono ?_
                    rintro e w5 ⟨rfl, hb5⟩
                    clear KH hcell
                    have hrow5 : Hid (∀ k, k < 8 → w5.cell? ⟨g, k, none⟩ = some (.int .i64 (G k))) := fun k hk => keepc hb5 (hrow.out k hk)
                    have kB5 := keepb hb5 kB
                    clear hb5 hrow kB
                    go_wp2
                    go_roundw
                    case rel => first | exact ⟨f, i + 1, S ++ HV, rfl, by go_num, by omega, by rw [hz2]; omega, by omega, HF2, hrow5, kB5⟩ | ((repeat apply Exists.intro); exact ⟨⟨f, i + 1, S ++ HV, rfl, by go_num, by omega, by rw [hz2]; omega, by omega, HF2, hrow5, kB5⟩, rfl⟩)
                    case measure => simp [intOf]; omega
                  · have hb3 : ¬ (1 : Int) < (b : Int) := by omega
                    clear hg2
                    go_wp2_with fail
                    refine (KH _).mono ?_
                    rintro e w5 ⟨rfl, hb5⟩
                    clear KH hcell
                    have hrow5 : Hid (∀ k, k < 8 → w5.cell? ⟨g, k, none⟩ = some (.int .i64 (G k))) := fun k hk => keepc hb5 (hrow.out k hk)
                    have kB5 := keepb hb5 kB
                    clear hb5 hrow kB
                    go_wp2
                    go_roundw
                    case rel => first | exact ⟨f, i + 1, S ++ HV, rfl, by go_num, by omega, by rw [hz2]; omega, by omega, HF2, hrow5, kB5⟩ | ((repeat apply Exists.intro); exact ⟨⟨f, i + 1, S ++ HV, rfl, by go_num, by omega, by rw [hz2]; omega, by omega, HF2, hrow5, kB5⟩, rfl⟩)
                    case measure => simp [intOf]; omega
                · have hem : S.toList.isEmpty = false := by rw [empty_is]; simp [h0]
                  have hbt := byteAt_in S (S.size - 1) (by omega)
                  have hsi : (S.size : Int) - 1 = ((S.size - 1 : Nat) : Int) := by omega
                  obtain ⟨m, HM⟩ : ∃ m, Hid (S.size - 1 = m) := ⟨_, rfl⟩
                  have hmm : (S.size : Int) - 1 = (m : Int) := by have := HM.out; omega
                  have hms : m < S.size := by have := HM.out; omega
                  have hum : IntKind.i64.wrap (m : Int) = (m : Int) := by rw [IntKind.wrap_i64]; omega
                  have hbt := byteAt_in S m hms
                  have HSep : Hid (sepS S = if byteAt S m = 58 then S else S ++ ⟨#[58]⟩) := by
                    show _ = _
                    unfold sepS
                    rw [HM.out]
                    by_cases q : byteAt S m = 58
                    · rw [if_pos (Or.inr q), if_pos q]
                    · rw [if_neg (by simp [h0, q]), if_neg q]
                  clear hsi
                  generalize byteAt S m = lc at *
                  by_cases hl : lc = 58
                  · subst hl
                    rw [HSep.out, if_pos rfl] at HF2
                    have hz2 : (S ++ HV).size = S.size + HV.size := ByteArray.size_append
                    by_cases hb2 : 1 < b
                    · have hb3 : (1 : Int) < (b : Int) := by omega
                      have hne : ((i : Int) == (a : Int)) = false := by simp; have := hg2 hb2; omega
                      clear hg2
                      go_wp2_with fail
                      refine (KH _).mono ?_
                      rintro e w5 ⟨rfl, hb5⟩
                      clear KH hcell
                      have hrow5 : Hid (∀ k, k < 8 → w5.cell? ⟨g, k, none⟩ = some (.int .i64 (G k))) := fun k hk => keepc hb5 (hrow.out k hk)
                      have kB5 := keepb hb5 kB
                      clear hb5 hrow kB
                      go_wp2
                      go_roundw
                      case rel => first | exact ⟨f, i + 1, S ++ HV, rfl, by go_num, by omega, by rw [hz2]; omega, by omega, HF2, hrow5, kB5⟩ | ((repeat apply Exists.intro); exact ⟨⟨f, i + 1, S ++ HV, rfl, by go_num, by omega, by rw [hz2]; omega, by omega, HF2, hrow5, kB5⟩, rfl⟩)
                      case measure => simp [intOf]; omega
                    · have hb3 : ¬ (1 : Int) < (b : Int) := by omega
                      clear hg2
                      go_wp2_with fail
                      refine (KH _).mono ?_
                      rintro e w5 ⟨rfl, hb5⟩
                      clear KH hcell
                      have hrow5 : Hid (∀ k, k < 8 → w5.cell? ⟨g, k, none⟩ = some (.int .i64 (G k))) := fun k hk => keepc hb5 (hrow.out k hk)
                      have kB5 := keepb hb5 kB
                      clear hb5 hrow kB
                      go_wp2
                      go_roundw
                      case rel => first | exact ⟨f, i + 1, S ++ HV, rfl, by go_num, by omega, by rw [hz2]; omega, by omega, HF2, hrow5, kB5⟩ | ((repeat apply Exists.intro); exact ⟨⟨f, i + 1, S ++ HV, rfl, by go_num, by omega, by rw [hz2]; omega, by omega, HF2, hrow5, kB5⟩, rfl⟩)
                      case measure => simp [intOf]; omega
                  · rw [HSep.out, if_neg hl] at HF2
                    have hlb : (lc != 58) = true := by simp [hl]
                    have hz1 : (S ++ ⟨#[58]⟩ : ByteArray).size = S.size + 1 := by rw [ByteArray.size_append]; rfl
                    have hz2 : (S ++ ⟨#[58]⟩ ++ HV).size = S.size + 1 + HV.size := by rw [ByteArray.size_append, hz1]
                    by_cases hb2 : 1 < b
                    · have hb3 : (1 : Int) < (b : Int) := by omega
                      have hne : ((i : Int) == (a : Int)) = false := by simp; have := hg2 hb2; omega
                      clear hg2
                      go_wp2_with fail
                      refine (KH _).mono ?_
                      rintro e w5 ⟨rfl, hb5⟩
                      clear KH hcell
                      have hrow5 : Hid (∀ k, k < 8 → w5.cell? ⟨g, k, none⟩ = some (.int .i64 (G k))) := fun k hk => keepc hb5 (hrow.out k hk)
                      have kB5 := keepb hb5 kB
                      clear hb5 hrow kB
                      go_wp2
                      go_roundw
                      case rel => first | exact ⟨f, i + 1, S ++ ⟨#[58]⟩ ++ HV, rfl, by go_num, by omega, by rw [hz2]; omega, by omega, HF2, hrow5, kB5⟩ | ((repeat apply Exists.intro); exact ⟨⟨f, i + 1, S ++ ⟨#[58]⟩ ++ HV, rfl, by go_num, by omega, by rw [hz2]; omega, by omega, HF2, hrow5, kB5⟩, rfl⟩)
                      case measure => simp [intOf]; omega
                    · have hb3 : ¬ (1 : Int) < (b : Int) := by omega
                      clear hg2
                      go_wp2_with fail
                      refine (KH _).mono ?_
                      rintro e w5 ⟨rfl, hb5⟩
                      clear KH hcell
                      have hrow5 : Hid (∀ k, k < 8 → w5.cell? ⟨g, k, none⟩ = some (.int .i64 (G k))) := fun k hk => keepc hb5 (hrow.out k hk)
                      have kB5 := keepb hb5 kB
                      clear hb5 hrow kB
                      go_wp2
                      go_roundw
                      case rel => first | exact ⟨f, i + 1, S ++ ⟨#[58]⟩ ++ HV, rfl, by go_num, by omega, by rw [hz2]; omega, by omega, HF2, hrow5, kB5⟩ | ((repeat apply Exists.intro); exact ⟨⟨f, i + 1, S ++ ⟨#[58]⟩ ++ HV, rfl, by go_num, by omega, by rw [hz2]; omega, by omega, HF2, hrow5, kB5⟩, rfl⟩)
                      case measure => simp [intOf]; omega
            · have hi2 : ¬ (i : Int) < 8 := by omega
              have HF : Hid (text6 x = S) := by show _ = _; rw [← HX.out, HS.out, if_pos (by omega)]
              clear HX HS
              go_wp2
              go_ret2
              exact ⟨by rw [HF.out]; rfl, kB⟩
end Go.Proofs.YtpchhfhdepkbcabDoor
/-
  Plain facts on texts: pieces joined and taken apart again; what the reference reads of an address that is written out of its groups.
-/
namespace Go.Proofs.YtpchhfhdepkbcabDoor
open Go.RowKit
set_option linter.unusedSimpArgs false
set_option linter.unusedVariables false

def bL (l : List UInt8) : ByteArray := ⟨l.toArray⟩
theorem bL_size (l : List UInt8) : (bL l).size = l.length := rfl
theorem bL_list (l : List UInt8) : (bL l).data.toList = l := rfl
theorem bL_cat (l m : List UInt8) : bL l ++ bL m = bL (l ++ m) := by
  apply ByteArray.ext; simp [bL]
theorem bL_at (l : List UInt8) (k : Nat) : byteAt (bL l) k = ((l.getD k 0).toNat : Int) := by
  unfold byteAt
  by_cases h : k < l.length
  · rw [dif_pos (by rw [bL_size]; exact h), List.getD_eq_getElem?_getD, List.getElem?_eq_getElem h]
    rfl
  · rw [dif_neg (by rw [bL_size]; exact h), List.getD_eq_getElem?_getD, List.getElem?_eq_none (by omega)]
    rfl
theorem bL_ext (l : List UInt8) (a b : Nat) : (bL l).extract a b = bL ((l.drop a).take (b - a)) := by
  rw [Lib.extract_eq]; rfl
theorem u8_eq (a b : UInt8) : ((a.toNat : Int) = (b.toNat : Int)) ↔ a = b := by
  constructor
  · intro h; exact UInt8.toNat_inj.mp (by omega)
  · intro h; rw [h]
theorem getD_mem (l : List UInt8) (k : Nat) (h : k < l.length) : l.getD k 0 ∈ l := by
  rw [List.getD_eq_getElem?_getD, List.getElem?_eq_getElem h]; exact List.getElem_mem h
theorem getD_left (l m : List UInt8) (k : Nat) (h : k < l.length) : (l ++ m).getD k 0 = l.getD k 0 := by
  rw [List.getD_eq_getElem?_getD, List.getD_eq_getElem?_getD, List.getElem?_append_left h]
theorem getD_right (l m : List UInt8) (k : Nat) : (l ++ m).getD (l.length + k) 0 = m.getD k 0 := by
  rw [List.getD_eq_getElem?_getD, List.getD_eq_getElem?_getD, List.getElem?_append_right (by omega)]
  rw [Nat.add_sub_cancel_left]

theorem spl_more (c : UInt8) (p r : List UInt8) (hp : ∀ x ∈ p, x ≠ c) :
    spl (bL (p ++ c :: r)) (c.toNat : Int) (bL (p ++ c :: r)).size 0 0 = bL p :: spl (bL r) (c.toNat : Int) (bL r).size 0 0 := by
  have hat : byteAt (bL (p ++ c :: r)) p.length = (c.toNat : Int) := by
    have := getD_right p (c :: r) 0
    rw [Nat.add_zero] at this
    rw [bL_at, this]; rfl
  have hsz : (bL (p ++ c :: r)).size = p.length + 1 + r.length := by rw [bL_size]; simp; omega
  obtain ⟨j, hj, hno, hw⟩ := spl_first (bL (p ++ c :: r)) (c.toNat : Int)
  have hjp : j = p.length := by
    rcases Nat.lt_trichotomy j p.length with q | q | q
    · exfalso
      rcases hw with ⟨e, -⟩ | ⟨-, e, -⟩
      · omega
      · rw [bL_at, getD_left _ _ _ q, u8_eq] at e
        exact hp _ (getD_mem p j q) e
    · exact q
    · exact absurd hat (hno _ q)
  subst hjp
  rcases hw with ⟨e, -⟩ | ⟨-, -, e⟩
  · omega
  · rw [e, bL_ext, bL_ext]
    have e1 : ((p ++ c :: r).drop 0).take (p.length - 0) = p := by simp
    have e2 : ((p ++ c :: r).drop (p.length + 1)).take ((bL (p ++ c :: r)).size - (p.length + 1)) = r := by
      rw [hsz, List.drop_append]
      simp
      rw [List.drop_eq_nil_of_le (by omega), List.nil_append, List.take_length]
    rw [e1, e2]
theorem spl_one (c : UInt8) (p : List UInt8) (hp : ∀ x ∈ p, x ≠ c) : spl (bL p) (c.toNat : Int) (bL p).size 0 0 = [bL p] := by
  obtain ⟨j, hj, hno, hw⟩ := spl_first (bL p) (c.toNat : Int)
  rcases hw with ⟨-, e⟩ | ⟨q, e, -⟩
  · exact e
  · exfalso
    rw [bL_size] at q
    rw [bL_at, u8_eq] at e
    exact hp _ (getD_mem p j q) e
/-- Pieces with c between two. -/
def jn (c : UInt8) : List (List UInt8) → List UInt8
  | [] => []
  | [p] => p
  | p :: q :: l => p ++ c :: jn c (q :: l)
theorem spl_jn (c : UInt8) : ∀ l : List (List UInt8), l ≠ [] → (∀ p ∈ l, ∀ x ∈ p, x ≠ c) → spl (bL (jn c l)) (c.toNat : Int) (bL (jn c l)).size 0 0 = l.map bL
  | [], h, _ => absurd rfl h
  | [p], _, hp => spl_one c p (hp p (by simp))
  | p :: q :: l, _, hp => by
    show spl (bL (p ++ c :: jn c (q :: l))) _ (bL (p ++ c :: jn c (q :: l))).size 0 0 = _
    rw [spl_more c p _ (hp p (by simp)), spl_jn c (q :: l) (by simp) (fun p' h => hp p' (by simp at h ⊢; right; exact h))]
    rfl
theorem jn_snoc (c : UInt8) : ∀ (l : List (List UInt8)) (p : List UInt8), l ≠ [] → jn c (l ++ [p]) = jn c l ++ c :: p
  | [], _, h => absurd rfl h
  | [q], p, _ => rfl
  | q :: r :: l, p, _ => by
    show q ++ c :: jn c (r :: l ++ [p]) = (q ++ c :: jn c (r :: l)) ++ c :: p
    rw [jn_snoc c (r :: l) p (by simp)]
    simp

/-- Four numbers with points between are one number. -/
theorem dec_oct : ∀ a, a < 256 → octV (bL (decL a)) = (a : Int) ∧ (∀ x ∈ decL a, x ≠ 46) ∧ (∀ x ∈ decL a, x ≠ 58) ∧ ¬ decL a = [] := by decide +kernel
def quadL (a b c d : Nat) : List UInt8 := jn 46 [decL a, decL b, decL c, decL d]
theorem dot_quad (a b c d : Nat) (ha : a < 256) (hb : b < 256) (hc : c < 256) (hd : d < 256) :
    dotO (bL (quadL a b c d)) = some ((((a * 256 + b) * 256 + c) * 256 + d : Nat) : Int) := by
  have e := spl_jn 46 [decL a, decL b, decL c, decL d] (by simp) (by
    intro p hp
    simp at hp
    rcases hp with rfl | rfl | rfl | rfl
    · exact (dec_oct a ha).2.1
    · exact (dec_oct b hb).2.1
    · exact (dec_oct c hc).2.1
    · exact (dec_oct d hd).2.1)
  have e' : spl (bL (quadL a b c d)) 46 (bL (quadL a b c d)).size 0 0 = [decL a, decL b, decL c, decL d].map bL := e
  unfold dotO
  rw [e', if_pos (by simp)]
  simp only [List.map_cons, List.map_nil, dotG]
  rw [(dec_oct a ha).1, (dec_oct b hb).1, (dec_oct c hc).1, (dec_oct d hd).1]
  rw [if_neg (by omega), if_neg (by omega), if_neg (by omega), if_neg (by omega)]
  congr 1
  omega
theorem quad_no (a b c d : Nat) (ha : a < 256) (hb : b < 256) (hc : c < 256) (hd : d < 256) : ∀ x ∈ quadL a b c d, x ≠ 58 := by
  intro x hx
  unfold quadL jn jn jn jn at hx
  simp at hx
  rcases hx with h | rfl | h | rfl | h | rfl | h
  · exact (dec_oct a ha).2.2.1 x h
  · decide
  · exact (dec_oct b hb).2.2.1 x h
  · decide
  · exact (dec_oct c hc).2.2.1 x h
  · decide
  · exact (dec_oct d hd).2.2.1 x h

/-- What a piece's digits say. -/
def vL : Int → List UInt8 → Int
  | n, [] => n
  | n, c :: r => if hexB (c.toNat : Int) = true then vL (16 * n + hexV (c.toNat : Int)) r else -1
theorem grG_list : ∀ (l p : List UInt8) (n : Int), grG (bL (p ++ l)) l.length p.length n = vL n l := by
  intro l
  induction l with
  | nil => intro p n; rfl
  | cons c r ih =>
    intro p n
    have hat : byteAt (bL (p ++ c :: r)) p.length = (c.toNat : Int) := by
      have := getD_right p (c :: r) 0
      rw [Nat.add_zero] at this
      rw [bL_at, this]; rfl
    show (if hexB (byteAt (bL (p ++ c :: r)) p.length) = true then grG (bL (p ++ c :: r)) r.length (p.length + 1) (16 * n + hexV (byteAt (bL (p ++ c :: r)) p.length)) else -1) = _
    rw [hat]
    have := ih (p ++ [c]) (16 * n + hexV (c.toNat : Int))
    rw [List.append_assoc, List.length_append] at this
    have t2 : grG (bL (p ++ c :: r)) r.length (p.length + 1) (16 * n + hexV (c.toNat : Int)) = vL (16 * n + hexV (c.toNat : Int)) r := this
    rw [t2]; rfl
theorem grV_list (l : List UInt8) (h1 : 1 ≤ l.length) (h4 : l.length ≤ 4) : grV (bL l) = vL 0 l := by
  unfold grV
  rw [bL_size, if_neg (by omega)]
  exact grG_list l [] 0
theorem dig_hex : ∀ u d, d < 16 → hexB ((digD u d).toNat : Int) = true ∧ hexV ((digD u d).toNat : Int) = (d : Int) := by
  intro u
  cases u
  · decide +kernel
  · decide +kernel
theorem vL_dig (u : Bool) (d : Nat) (h : d < 16) (n : Int) (r : List UInt8) : vL n (digD u d :: r) = vL (16 * n + d) r := by
  show (if hexB ((digD u d).toNat : Int) = true then vL (16 * n + hexV ((digD u d).toNat : Int)) r else -1) = _
  rw [if_pos (dig_hex u d h).1, (dig_hex u d h).2]
theorem vL_digF (u : Bool) (e : Nat) : ∀ f m (t : List UInt8), m < 16 ^ f → vL 0 (digF u e f m t) = vL (m : Int) t := by
  intro f
  induction f with
  | zero => intro m t h; have : m = 0 := by simpa using h
            subst this; rfl
  | succ f ih =>
    intro m t h
    by_cases hz : m = 0 ∧ e ≤ t.length
    · rw [digF_zero _ _ _ _ _ hz, hz.1]; rfl
    · rw [show digF u e (f + 1) m t = digF u e f (m / 16) (digD u (m % 16) :: t) from if_neg hz]
      rw [Nat.pow_succ] at h
      rw [ih _ _ (by omega), vL_dig u _ (by omega)]
      congr 1; omega
theorem digF_hex (u : Bool) (e : Nat) : ∀ f m (t : List UInt8), (∀ x ∈ t, hexB (x.toNat : Int) = true) → ∀ x ∈ digF u e f m t, hexB (x.toNat : Int) = true := by
  intro f
  induction f with
  | zero => intro m t h; exact h
  | succ f ih =>
    intro m t h
    by_cases hz : m = 0 ∧ e ≤ t.length
    · rw [digF_zero _ _ _ _ _ hz]; exact h
    · rw [show digF u e (f + 1) m t = digF u e f (m / 16) (digD u (m % 16) :: t) from if_neg hz]
      refine ih _ _ (fun x hx => ?_)
      rcases List.mem_cons.mp hx with rfl | q
      · exact (dig_hex u _ (by omega)).1
      · exact h x q
/-- A piece that is a group's. -/
structure Pc (p : List UInt8) (v : Int) : Prop where
  ne : p ≠ []
  hex : ∀ x ∈ p, hexB (x.toNat : Int) = true
  val : grV (bL p) = v
  nn : 0 ≤ v
theorem Pc.no {p : List UInt8} {v : Int} (h : Pc p v) (c : UInt8) (hc : hexB (c.toNat : Int) = false) : ∀ x ∈ p, x ≠ c := by
  intro x hx e
  have := h.hex x hx
  rw [e, hc] at this
  exact absurd this (by decide)
theorem Pc.nodot {p : List UInt8} {v : Int} (h : Pc p v) : (dotO (bL p)).isSome = false := by
  have := spl_one 46 p (h.no 46 (by decide))
  have e : spl (bL p) 46 (bL p).size 0 0 = [bL p] := this
  unfold dotO
  rw [e, if_neg (by simp)]; rfl
theorem dig_pc (u : Bool) (e n : Nat) (he : 1 ≤ e) (h4 : e ≤ 4) (h : n < 65536) : Pc (digL u e n) (n : Int) := by
  have hl := digL_len u e n h4 h
  refine ⟨fun q => by rw [q] at hl; simp at hl; omega, digF_hex u e 4 n [] (by simp), ?_, by omega⟩
  rw [grV_list _ (by omega) hl.2]
  exact vL_digF u e 4 n [] h
end Go.Proofs.YtpchhfhdepkbcabDoor
