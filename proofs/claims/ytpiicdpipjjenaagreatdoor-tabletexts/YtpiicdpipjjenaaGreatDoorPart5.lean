/-
  Part 5 of the proof: 4 texts, one behind the other.
-/
import Derived.Test.YtpiicdpipjjenaaGreatDoorPart4
import Derived.Laws.IdiomStrings
import Derived.Test.YtpiicdpipjjenaaGreatDoorPart3
import Derived.Test.YtpiicdpipjjenaaGreatDoorPart1
import Derived.Test.YtpiicdpipjjenaaGreatDoorPart2
namespace Go.Proofs.YtpiicdpipjjenaaGreatDoor
open Go.RowKit
set_option linter.unusedSimpArgs false
set_option linter.unusedVariables false

def rnG (G : Nat → Int) (i : Nat) : Nat → Nat → Nat
  | 0, n => n
  | f + 1, n => if i + n < 8 ∧ G (i + n) = 0 then rnG G i f (n + 1) else n
def bsG (G : Nat → Int) : Nat → Nat → Nat → Nat → Nat × Nat
  | 0, _, a, b => (a, b)
  | f + 1, i, a, b => if b < rnG G i 9 0 then bsG G f (i + 1) i (rnG G i 9 0) else bsG G f (i + 1) a b
def sepS (s : ByteArray) : ByteArray := if s.size = 0 ∨ byteAt s (s.size - 1) = 58 then s else s ++ ⟨#[58]⟩
def txG (G : Nat → Int) (a b : Nat) : Nat → Nat → ByteArray → ByteArray
  | 0, _, s => s
  | f + 1, i, s => if 8 ≤ i then s else if 1 < b ∧ i = a then txG G a b f (i + b) (s ++ ⟨#[58, 58]⟩) else txG G a b f (i + 1) (sepS s ++ ⟨(hexL (G i).toNat).toArray⟩)
def grpX (x : BitVec 128) (k : Nat) : Int := lI (readW x (16 * (k : Int)) 16)
def text6 (x : BitVec 128) : ByteArray := txG (grpX x) (bsG (grpX x) 8 0 0 1).1 (bsG (grpX x) 8 0 0 1).2 9 0 ⟨#[]⟩
theorem grpX_bd (x : BitVec 128) (k : Nat) (hk : k < 8) : 0 ≤ grpX x k ∧ grpX x k ≤ 65535 := by
  unfold grpX readW
  exact part16_bd x (k : Int)
theorem rnG_bd (G : Nat → Int) (i : Nat) (hi : i ≤ 8) : ∀ f n, i + n ≤ 8 → i + rnG G i f n ≤ 8 ∧ n ≤ rnG G i f n := by
  intro f
  induction f with
  | zero => intro n h; exact ⟨h, Nat.le_refl _⟩
  | succ f ih =>
    intro n h
    by_cases hc : i + n < 8 ∧ G (i + n) = 0
    · have e : rnG G i (f + 1) n = rnG G i f (n + 1) := if_pos hc
      rw [e]
      have := ih (n + 1) (by omega)
      omega
    · have e : rnG G i (f + 1) n = n := if_neg hc
      rw [e]; omega
def cellsG (x : BitVec 128) (k : Nat) : List Int := (List.range k).map (grpX x)
theorem cellsG_succ (x : BitVec 128) (k : Nat) : cellsG x (k + 1) = cellsG x k ++ [grpX x k] := by
  unfold cellsG; rw [List.range_succ, List.map_append]; rfl
theorem cellsG_get (x : BitVec 128) (k : Nat) (hk : k < 8) : (cellsG x 8).getD k 0 = grpX x k := by
  unfold cellsG
  rw [List.getD_eq_getElem?_getD, List.getElem?_map, List.getElem?_range hk]; rfl
theorem row_int2 {w : World} {base e g n cap : Nat} {l : List Int} (h : w.ownsRow base e 1 (.slice (some ⟨g, 0, none⟩) n cap) n (ints l)) (hn : n = l.length) (k : Nat) (hk : k < n) : w.cell? ⟨g, k, none⟩ = some (.int .i64 (l.getD k 0)) := by
  rw [h.cellAt k (by omega)]
  unfold ints
  rw [List.getElem?_map, List.getElem?_eq_getElem (by omega), List.getD_eq_getElem?_getD, List.getElem?_eq_getElem (by omega)]
  rfl

theorem At.gby {w w' : World} {B : Nat} {x : BitVec 128} {row : Option Nat} (h : At w B x) (hg : w.grownBy w' row) (hne : ¬ some B = row) : At w' B x := by
  obtain ⟨h0, h1, h2, h3, h4⟩ := h
  have hb := hg.block B h4 hne
  exact ⟨hg.cell h0 hne, hg.cell h1 hne, (World.frozen?_of_block (a := ⟨B, 0, none⟩) hb).trans h2, (World.frozen?_of_block (a := ⟨B, 1, none⟩) hb).trans h3, Nat.lt_of_lt_of_le h4 hg.size⟩
theorem bsG_bd (G : Nat → Int) : ∀ f i a b, i + f ≤ 8 → 1 ≤ b → a + b ≤ 8 → 1 ≤ (bsG G f i a b).2 ∧ (bsG G f i a b).1 + (bsG G f i a b).2 ≤ 8 := by
  intro f
  induction f with
  | zero => intro i a b _ h1 h2; exact ⟨h1, h2⟩
  | succ f ih =>
    intro i a b hi h1 h2
    by_cases hc : b < rnG G i 9 0
    · have e : bsG G (f + 1) i a b = bsG G f (i + 1) i (rnG G i 9 0) := if_pos hc
      rw [e]
      have := rnG_bd G i (by omega) 9 0 (by omega)
      exact ih _ _ _ (by omega) (by omega) (by omega)
    · have e : bsG G (f + 1) i a b = bsG G f (i + 1) a b := if_neg hc
      rw [e]
      exact ih _ _ _ (by omega) h1 h2

set_option maxHeartbeats 8000000 in
theorem rtext_six (x : BitVec 128) (w : World) (h : rightE 128 x = 0) :
    Calls Tryz.prog 37 #[.int .i64 128, .agg #[.int .u64 (hI x), .int .u64 (lI x)]] w fun e w' => e = .returned (.tuple #[.string (text6 x), .int .i64 0]) ∧ Below w.heap.size w w' := by
  obtain ⟨i0, hi, hz0, hz1, hz2⟩ := info_parts Tryz.infoI
  have KR := fun w => rright_any 128 x w
  rw [h] at KR
  clear h
  go_enter Tryz.func37, Tryz.ntmps37
  go_wp2_with fail
  refine (KR _).mono ?_
  rintro e w1 ⟨rfl, hb1⟩
  have X1 := (at_new w w.heap.size x 43 rfl).below hb1
  have kB1 := keepb hb1 (bl1 w _)
  clear hb1 KR
  go_wp2
  go_loopw [7, 8] (fun a b wr => ∃ (k : Nat) (ao : Option Addr) (cp : Nat), a = .slice ao k cp ∧ b = .int .i64 k ∧ k ≤ 8 ∧ wr.ownsRow (w.heap.size + 1) 3 1 (.slice ao k cp) k (ints (cellsG x k)) ∧ At wr w.heap.size x ∧ Below w.heap.size w wr) (fun _ b _ => 8 - (intOf b).toNat)
  case atStart => exact ⟨0, none, 0, rfl, rfl, by omega, World.ownsRow_nil _ _ _ _, X1, kB1⟩
  case round =>
    clear X1 kB1
    obtain ⟨k, ao, cp, rfl, rfl, hk, hown, X, kB⟩ := hrel
    have hXs := X.2.2.2.2
    by_cases hlt : k < 8
    · have hk2 : (k : Int) < 8 := by omega
      have hum : IntKind.i64.wrap (16 * (k : Int)) = 16 * (k : Int) := by rw [IntKind.wrap_i64]; omega
      have KF := fun w => rfield_in x (16 * (k : Int)) 16 w (by unfold fitB; simp; omega)
      have gb := grpX_bd x k hlt
      have HG : Hid (lI (readW x (16 * (k : Int)) 16) = grpX x k) := rfl
      have HC := cellsG_succ x k
      rw [HG.out] at KF
      generalize grpX x k = v at *
      generalize hI (readW x (16 * (k : Int)) 16) = vh at *
      have hcv : IntKind.i64.wrap v = v := by rw [IntKind.wrap_i64]; omega
      have h63 : k + 1 ≤ maxLen := by unfold maxLen; omega
      have h47 : (k + 1) * 8 ≤ 140737488355328 := by omega
      have HC2 : Hid (cellsG x (k + 1) = cellsG x k ++ [v]) := HC
      clear HC
      obtain ⟨x0, x1, -, -, -⟩ := id X
      go_wp2_with fail
      refine (KF _).mono ?_
      rintro e w5 ⟨rfl, hb5⟩
      clear KF x0 x1
      have X5 := (X.below hb5).below (bl1 _ (.cells #[.int .u64 vh, .int .u64 v] 43))
      have hown := (rowBelow hb5 hown).alloc (.cells #[.int .u64 vh, .int .u64 v] 43)
      have kB5 := (keepb hb5 kB).alloc (keepb hb5 kB).size (.cells #[.int .u64 vh, .int .u64 v] 43)
      have hs5 := hb5.size
      clear X kB hb5
      go_wp2_with (first | (at_builtin; refine wpList_append_lies _ rfl _ _ 94 rfl (w.heap.size + 1) 3 i0 (.int .i64 0) 1 8 Tryz.underlying94 hi hz0 hz1 hz2 rfl (by decide) _ _ _ rfl (hown.alloc _) ⟨w5.heap.size + 1, 0, none⟩ 1 1 [.int .i64 v] rfl rfl (by simpa using newsS (w5.alloc (.cells #[.int .u64 vh, .int .u64 v] 43)) (.int .i64 v) 3) (oneI _) (by decide) h63 h47 (by simp; omega) _ rfl ?_; intro g5 cap5 w6 hown5 hgrow hat hlt5))
      have kB6 : Below w.heap.size w w6 := (kB5.alloc kB5.size _).grown hgrow (by have := kB5.size; simp at this ⊢; omega) (fun q hq => by have := (hown.lt q hq).1; omega)
      have X6 := (X5.below (bl1 _ _)).gby hgrow (fun e => by have := (hown.lt _ e.symm).1; omega)
      clear hgrow hat
      go_roundw
      case rel => exact ⟨k + 1, some ⟨g5, 0, none⟩, cap5, rfl, by go_num, by omega, by rw [HC2.out]; simpa [ints] using hown5, X6, kB6⟩
      case measure => simp [intOf]; omega
    · have hk8 : k = 8 := by omega
      subst hk8
      obtain ⟨g, c2, hv, -, -⟩ := hown.form (by omega)
      have hv2 : ao = some ⟨g, 0, none⟩ ∧ cp = c2 := by
        injection hv with e1 e2 e3; exact ⟨e1, e3⟩
      obtain ⟨rfl, rfl⟩ := hv2
      have hrow : Hid (∀ k, k < 8 → wr.cell? ⟨g, k, none⟩ = some (.int .i64 (grpX x k))) := fun k hk => by
        rw [row_int2 hown (by simp [cellsG]) k hk, cellsG_get x k hk]
      have hG : Hid (∀ k, k < 8 → 0 ≤ grpX x k ∧ grpX x k ≤ 65535) := fun k hk => grpX_bd x k hk
      have HT : Hid (text6 x = txG (grpX x) (bsG (grpX x) 8 0 0 1).1 (bsG (grpX x) 8 0 0 1).2 9 0 ⟨#[]⟩) := rfl
      clear hown hv X hXs
      generalize grpX x = G at *
      go_wp2
      go_loopw [11, 12, 13] (fun p q r wz => ∃ (i a b : Nat), p = .int .i64 a ∧ q = .int .i64 b ∧ r = .int .i64 i ∧ i ≤ 8 ∧ 1 ≤ b ∧ a + b ≤ 8 ∧ Hid (bsG G (8 - i) i a b = bsG G 8 0 0 1) ∧ wz = wr) (fun _ _ r _ => 8 - (intOf r).toNat)
      case atStart => exact ⟨0, 0, 1, rfl, rfl, rfl, by omega, by omega, by omega, rfl, rfl⟩
      case round =>
        obtain ⟨i, a, b, rfl, rfl, rfl, hi8, hb1, hab, HR, rfl⟩ := hrel
        by_cases hlt : i < 8
        · have hi2 : (i : Int) < 8 := by omega
          have HU : Hid (8 - i = (8 - (i + 1)) + 1) := by show _ = _; omega
          have HS : Hid (∀ f, bsG G (f + 1) i a b = if b < rnG G i 9 0 then bsG G f (i + 1) i (rnG G i 9 0) else bsG G f (i + 1) a b) := fun _ => rfl
          have hrb := rnG_bd G i (by omega) 9 0 (by omega)
          go_wp2
          go_loopw [14] (fun p wz2 => ∃ n : Nat, p = .int .i64 n ∧ i + n ≤ 8 ∧ Hid (rnG G i (9 - n) n = rnG G i 9 0) ∧ wz2 = wr) (fun p _ => 9 - (intOf p).toNat)
          case atStart => exact ⟨0, rfl, by omega, rfl, rfl⟩
          case round =>
            obtain ⟨n, rfl, hn, HN, rfl⟩ := hrel
            have hui : IntKind.i64.wrap ((i : Int) + (n : Int)) = (i : Int) + (n : Int) := by rw [IntKind.wrap_i64]; omega
            have HUN : Hid (9 - n = (9 - (n + 1)) + 1) := by show _ = _; omega
            have HSN : Hid (∀ f, rnG G i (f + 1) n = if i + n < 8 ∧ G (i + n) = 0 then rnG G i f (n + 1) else n) := fun _ => rfl
            by_cases hc : i + n < 8
            · have hcell := hrow.out (i + n) hc
              have hc2 : (i : Int) + (n : Int) < 8 := by omega
              obtain ⟨m, HM⟩ : ∃ m, Hid (i + n = m) := ⟨_, rfl⟩
              have hm : (i : Int) + (n : Int) = (m : Int) := by have := HM.out; omega
              have hm2 : (m : Int) < 8 := by omega
              have hum : IntKind.i64.wrap (m : Int) = (m : Int) := by rw [IntKind.wrap_i64]; omega
              rw [HM.out] at hcell
              have HSN2 : Hid (rnG G i (9 - n) n = if G m = 0 then rnG G i (9 - (n + 1)) (n + 1) else n) := by
                show _ = _
                rw [HUN.out, HSN.out, HM.out]
                by_cases q : G m = 0
                · rw [if_pos ⟨by have := HM.out; omega, q⟩, if_pos q]
                · rw [if_neg (fun z => q z.2), if_neg q]
              generalize G m = v at *
              clear hui HUN HSN
              by_cases hv0 : v = 0
              · have HF : Hid (rnG G i (9 - (n + 1)) (n + 1) = rnG G i 9 0) := by show _ = _; rw [← HN.out, HSN2.out, if_pos hv0]
                subst hv0
                clear HSN2 HN
                go_wp2
                go_roundw
                case rel => exact ⟨n + 1, by go_num, by omega, HF, trivial⟩
                case measure => simp [intOf]; omega
              · have HF : Hid (rnG G i 9 0 = n) := by show _ = _; rw [← HN.out, HSN2.out, if_neg hv0]
                have hvb : (v == 0) = false := by simp [hv0]
                clear HSN2 HN
                by_cases hbn : b < n
                · have hbn2 : (b : Int) < (n : Int) := by omega
                  have HR2 : Hid (bsG G (8 - (i + 1)) (i + 1) i n = bsG G 8 0 0 1) := by show _ = _; rw [← HR.out, HU.out, HS.out, HF.out, if_pos hbn]
                  clear HR HS HU HF
                  go_wp2
                  go_roundw
                  case rel => exact ⟨i + 1, i, n, rfl, rfl, by go_num, by omega, by omega, by omega, HR2, trivial⟩
                  case measure => simp [intOf]; omega
                · have hbn2 : ¬ (b : Int) < (n : Int) := by omega
                  have HR2 : Hid (bsG G (8 - (i + 1)) (i + 1) a b = bsG G 8 0 0 1) := by show _ = _; rw [← HR.out, HU.out, HS.out, HF.out, if_neg hbn]
                  clear HR HS HU HF
                  go_wp2
                  go_roundw
                  case rel => exact ⟨i + 1, a, b, rfl, rfl, by go_num, by omega, by omega, by omega, HR2, trivial⟩
                  case measure => simp [intOf]; omega
            · have hc2 : ¬ (i : Int) + (n : Int) < 8 := by omega
              have HF : Hid (rnG G i 9 0 = n) := by show _ = _; rw [← HN.out, HUN.out, HSN.out, if_neg (fun z => hc z.1)]
              clear HUN HSN HN
              by_cases hbn : b < n
              · have hbn2 : (b : Int) < (n : Int) := by omega
                have HR2 : Hid (bsG G (8 - (i + 1)) (i + 1) i n = bsG G 8 0 0 1) := by show _ = _; rw [← HR.out, HU.out, HS.out, HF.out, if_pos hbn]
                clear HR HS HU HF
                go_wp2
                go_roundw
                case rel => exact ⟨i + 1, i, n, rfl, rfl, by go_num, by omega, by omega, by omega, HR2, trivial⟩
                case measure => simp [intOf]; omega
              · have hbn2 : ¬ (b : Int) < (n : Int) := by omega
                have HR2 : Hid (bsG G (8 - (i + 1)) (i + 1) a b = bsG G 8 0 0 1) := by show _ = _; rw [← HR.out, HU.out, HS.out, HF.out, if_neg hbn]
                clear HR HS HU HF
                go_wp2
                go_roundw
                case rel => exact ⟨i + 1, a, b, rfl, rfl, by go_num, by omega, by omega, by omega, HR2, trivial⟩
                case measure => simp [intOf]; omega
        · have hi8' : i = 8 := by omega
          subst hi8'
          have HB : Hid (bsG G 8 0 0 1 = (a, b)) := by show _ = _; rw [← HR.out]; rfl
          have HT2 : Hid (text6 x = txG G a b 9 0 ⟨#[]⟩) := by show _ = _; rw [HT.out, HB.out]
          clear HR HT HB
          go_wp2
          go_loopw [15, 16] (fun p q wz => ∃ (f i : Nat) (S : ByteArray), p = .string S ∧ q = .int .i64 i ∧ i ≤ 8 ∧ S.size ≤ 5 * i ∧ 8 < i + f ∧ Hid (txG G a b f i S = text6 x) ∧ Hid (∀ k, k < 8 → wz.cell? ⟨g, k, none⟩ = some (.int .i64 (G k))) ∧ Below w.heap.size w wz) (fun _ q _ => 8 - (intOf q).toNat)
          case atStart => exact ⟨9, 0, ⟨#[]⟩, rfl, rfl, by omega, by decide, by omega, HT2.out.symm, hrow, kB⟩
          case round =>
            clear hrow kB HT2
            obtain ⟨f, i, S, rfl, rfl, hi8, hS, hf, HX, hrow, kB⟩ := hrel
            obtain ⟨f, rfl⟩ : ∃ k, f = k + 1 := ⟨f - 1, by omega⟩
            have HS : Hid (txG G a b (f + 1) i S = if 8 ≤ i then S else if 1 < b ∧ i = a then txG G a b f (i + b) (S ++ ⟨#[58, 58]⟩) else txG G a b f (i + 1) (sepS S ++ ⟨(hexL (G i).toNat).toArray⟩)) := rfl
            by_cases hlt : i < 8
            · have hi2 : (i : Int) < 8 := by omega
              by_cases hgap : 1 < b ∧ i = a
              · obtain ⟨hb2, rfl⟩ := hgap
                have HF : Hid (txG G i b f (i + b) (S ++ ⟨#[58, 58]⟩) = text6 x) := by show _ = _; rw [← HX.out, HS.out, if_neg (by omega), if_pos ⟨hb2, rfl⟩]
                have hb3 : (1 : Int) < (b : Int) := by omega
                have hu1 : IntKind.i64.wrap ((i : Int) + (b : Int)) = (i : Int) + (b : Int) := by rw [IntKind.wrap_i64]; omega
                have hu2 : IntKind.i64.wrap ((i : Int) + (b : Int) - 1) = (i : Int) + (b : Int) - 1 := by rw [IntKind.wrap_i64]; omega
                have hsz : (S ++ ⟨#[58, 58]⟩ : ByteArray).size = S.size + 2 := by rw [ByteArray.size_append]; rfl
                clear HS HX
                go_wp2
                go_roundw
                case rel => exact ⟨f, i + b, S ++ ⟨#[58, 58]⟩, rfl, by go_num, by omega, by rw [hsz]; omega, by omega, HF, hrow, kB⟩
                case measure => simp [intOf]; omega
              · have HF : Hid (txG G a b f (i + 1) (sepS S ++ ⟨(hexL (G i).toNat).toArray⟩) = text6 x) := by show _ = _; rw [← HX.out, HS.out, if_neg (by omega), if_neg hgap]
                have hcell := hrow.out i hlt
                obtain ⟨v0, v1⟩ := hG.out i hlt
                obtain ⟨v, hv⟩ := Int.eq_ofNat_of_zero_le v0
                rw [hv] at hcell
                have KH := fun w => rhex_any v w (by omega)
                have hHb : (⟨(hexL v).toArray⟩ : ByteArray).size ≤ 4 := (hexL_len v (by omega)).2
                have HF2 : Hid (txG G a b f (i + 1) (sepS S ++ ⟨(hexL v).toArray⟩) = text6 x) := by
                  have := HF.out
                  rw [hv, Int.toNat_natCast] at this; exact this
                clear HF HS HX v0 v1 hv
                generalize (⟨(hexL v).toArray⟩ : ByteArray) = HV at *
                have hcond : Hid ((1 < b ∧ i = a) = False) := by show _ = _; simp [hgap]
                have hg2 : 1 < b → ¬ (i : Int) = (a : Int) := fun q e => hgap ⟨q, by omega⟩
                clear hgap
                by_cases h0 : S.size = 0
                · have hem : S.toList.isEmpty = true := by rw [empty_is]; simp [h0]
                  have HSep : Hid (sepS S = S) := by show _ = _; unfold sepS; rw [if_pos (Or.inl h0)]
                  rw [HSep.out] at HF2
                  have hz2 : (S ++ HV).size = S.size + HV.size := ByteArray.size_append
                  by_cases hb2 : 1 < b
                  · have hb3 : (1 : Int) < (b : Int) := by omega
                    have hne : ((i : Int) == (a : Int)) = false := by simp; have := hg2 hb2; omega
                    clear hg2
                    go_wp2_with fail
                    refine (KH _).mono ?_
                    rintro e w5 ⟨rfl, hb5⟩
                    clear KH hcell
                    have hrow5 : Hid (∀ k, k < 8 → w5.cell? ⟨g, k, none⟩ = some (.int .i64 (G k))) := fun k hk => keepc hb5 (hrow.out k hk)
                    have kB5 := keepb hb5 kB
                    clear hb5 hrow kB
                    go_wp2
                    go_roundw
                    case rel => first | exact ⟨f, i + 1, S ++ HV, rfl, by go_num, by omega, by rw [hz2]; omega, by omega, HF2, hrow5, kB5⟩ | ((repeat apply Exists.intro); exact ⟨⟨f, i + 1, S ++ HV, rfl, by go_num, by omega, by rw [hz2]; omega, by omega, HF2, hrow5, kB5⟩, rfl⟩)
                    case measure => simp [intOf]; omega
                  · have hb3 : ¬ (1 : Int) < (b : Int) := by omega
                    clear hg2
                    go_wp2_with fail
                    refine (KH _).mono ?_
                    rintro e w5 ⟨rfl, hb5⟩
                    clear KH hcell
                    have hrow5 : Hid (∀ k, k < 8 → w5.cell? ⟨g, k, none⟩ = some (.int .i64 (G k))) := fun k hk => keepc hb5 (hrow.out k hk)
                    have kB5 := keepb hb5 kB
                    clear hb5 hrow kB
                    go_wp2
                    go_roundw
                    case rel => first | exact ⟨f, i + 1, S ++ HV, rfl, by go_num, by omega, by rw [hz2]; omega, by omega, HF2, hrow5, kB5⟩ | ((repeat apply Exists.intro); exact ⟨⟨f, i + 1, S ++ HV, rfl, by go_num, by omega, by rw [hz2]; omega, by omega, HF2, hrow5, kB5⟩, rfl⟩)
                    case measure => simp [intOf]; omega
                · have hem : S.toList.isEmpty = false := by rw [empty_is]; simp [h0]
                  have hbt := byteAt_in S (S.size - 1) (by omega)
                  have hsi : (S.size : Int) - 1 = ((S.size - 1 : Nat) : Int) := by omega
                  obtain ⟨m, HM⟩ : ∃ m, Hid (S.size - 1 = m) := ⟨_, rfl⟩
                  have hmm : (S.size : Int) - 1 = (m : Int) := by have := HM.out; omega
                  have hms : m < S.size := by have := HM.out; omega
                  have hum : IntKind.i64.wrap (m : Int) = (m : Int) := by rw [IntKind.wrap_i64]; omega
                  have hbt := byteAt_in S m hms
                  have HSep : Hid (sepS S = if byteAt S m = 58 then S else S ++ ⟨#[58]⟩) := by
                    show _ = _
                    unfold sepS
                    rw [HM.out]
                    by_cases q : byteAt S m = 58
                    · rw [if_pos (Or.inr q), if_pos q]
                    · rw [if_neg (by simp [h0, q]), if_neg q]
                  clear hsi
                  generalize byteAt S m = lc at *
                  by_cases hl : lc = 58
                  · subst hl
                    rw [HSep.out, if_pos rfl] at HF2
                    have hz2 : (S ++ HV).size = S.size + HV.size := ByteArray.size_append
                    by_cases hb2 : 1 < b
                    · have hb3 : (1 : Int) < (b : Int) := by omega
                      have hne : ((i : Int) == (a : Int)) = false := by simp; have := hg2 hb2; omega
                      clear hg2
                      go_wp2_with fail
                      refine (KH _).mono ?_
                      rintro e w5 ⟨rfl, hb5⟩
                      clear KH hcell
                      have hrow5 : Hid (∀ k, k < 8 → w5.cell? ⟨g, k, none⟩ = some (.int .i64 (G k))) := fun k hk => keepc hb5 (hrow.out k hk)
                      have kB5 := keepb hb5 kB
                      clear hb5 hrow kB
                      go_wp2
                      go_roundw
                      case rel => first | exact ⟨f, i + 1, S ++ HV, rfl, by go_num, by omega, by rw [hz2]; omega, by omega, HF2, hrow5, kB5⟩ | ((repeat apply Exists.intro); exact ⟨⟨f, i + 1, S ++ HV, rfl, by go_num, by omega, by rw [hz2]; omega, by omega, HF2, hrow5, kB5⟩, rfl⟩)
                      case measure => simp [intOf]; omega
                    · have hb3 : ¬ (1 : Int) < (b : Int) := by omega
                      clear hg2
                      go_wp2_with fail
                      refine (KH _).mono ?_
                      rintro e w5 ⟨rfl, hb5⟩
                      clear KH hcell
                      have hrow5 : Hid (∀ k, k < 8 → w5.cell? ⟨g, k, none⟩ = some (.int .i64 (G k))) := fun k hk => keepc hb5 (hrow.out k hk)
                      have kB5 := keepb hb5 kB
                      clear hb5 hrow kB
                      go_wp2
                      go_roundw
                      case rel => first | exact ⟨f, i + 1, S ++ HV, rfl, by go_num, by omega, by rw [hz2]; omega, by omega, HF2, hrow5, kB5⟩ | ((repeat apply Exists.intro); exact ⟨⟨f, i + 1, S ++ HV, rfl, by go_num, by omega, by rw [hz2]; omega, by omega, HF2, hrow5, kB5⟩, rfl⟩)
                      case measure => simp [intOf]; omega
                  · rw [HSep.out, if_neg hl] at HF2
                    have hlb : (lc != 58) = true := by simp [hl]
                    have hz1 : (S ++ ⟨#[58]⟩ : ByteArray).size = S.size + 1 := by rw [ByteArray.size_append]; rfl
                    have hz2 : (S ++ ⟨#[58]⟩ ++ HV).size = S.size + 1 + HV.size := by rw [ByteArray.size_append, hz1]
                    by_cases hb2 : 1 < b
                    · have hb3 : (1 : Int) < (b : Int) := by omega
                      have hne : ((i : Int) == (a : Int)) = false := by simp; have := hg2 hb2; omega
                      clear hg2
                      go_wp2_with fail
                      refine (KH _).mono ?_
                      rintro e w5 ⟨rfl, hb5⟩
                      clear KH hcell
                      have hrow5 : Hid (∀ k, k < 8 → w5.cell? ⟨g, k, none⟩ = some (.int .i64 (G k))) := fun k hk => keepc hb5 (hrow.out k hk)
                      have kB5 := keepb hb5 kB
                      clear hb5 hrow kB
                      go_wp2
                      go_roundw
                      case rel => first | exact ⟨f, i + 1, S ++ ⟨#[58]⟩ ++ HV, rfl, by go_num, by omega, by rw [hz2]; omega, by omega, HF2, hrow5, kB5⟩ | ((repeat apply Exists.intro); exact ⟨⟨f, i + 1, S ++ ⟨#[58]⟩ ++ HV, rfl, by go_num, by omega, by rw [hz2]; omega, by omega, HF2, hrow5, kB5⟩, rfl⟩)
                      case measure => simp [intOf]; omega
                    · have hb3 : ¬ (1 : Int) < (b : Int) := by omega
                      clear hg2
                      go_wp2_with fail
                      refine (KH _).mono ?_
                      rintro e w5 ⟨rfl, hb5⟩
                      clear KH hcell
                      have hrow5 : Hid (∀ k, k < 8 → w5.cell? ⟨g, k, none⟩ = some (.int .i64 (G k))) := fun k hk => keepc hb5 (hrow.out k hk)
                      have kB5 := keepb hb5 kB
                      clear hb5 hrow kB
                      go_wp2
                      go_roundw
                      case rel => first | exact ⟨f, i + 1, S ++ ⟨#[58]⟩ ++ HV, rfl, by go_num, by omega, by rw [hz2]; omega, by omega, HF2, hrow5, kB5⟩ | ((repeat apply Exists.intro); exact ⟨⟨f, i + 1, S ++ ⟨#[58]⟩ ++ HV, rfl, by go_num, by omega, by rw [hz2]; omega, by omega, HF2, hrow5, kB5⟩, rfl⟩)
                      case measure => simp [intOf]; omega
            · have hi2 : ¬ (i : Int) < 8 := by omega
              have HF : Hid (text6 x = S) := by show _ = _; rw [← HX.out, HS.out, if_pos (by omega)]
              clear HX HS
              go_wp2
              go_ret2
              exact ⟨by rw [HF.out]; rfl, kB⟩
end Go.Proofs.YtpiicdpipjjenaaGreatDoor
namespace Go.Proofs.YtpiicdpipjjenaaGreatDoor
open Go.RowKit
set_option linter.unusedSimpArgs false
set_option linter.unusedVariables false

theorem sepS_size (S : ByteArray) : (sepS S).size ≤ S.size + 1 := by
  unfold sepS
  split
  · omega
  · rw [ByteArray.size_append]; exact Nat.le_refl _
theorem txG_size (G : Nat → Int) (a b : Nat) (hb : 1 ≤ b) (hab : a + b ≤ 8) (hG : ∀ k, k < 8 → 0 ≤ G k ∧ G k ≤ 65535) : ∀ f i (S : ByteArray), i ≤ 8 → 8 < i + f → S.size ≤ 5 * i → (i = 0 ∨ 1 ≤ S.size) → 1 ≤ (txG G a b f i S).size ∧ (txG G a b f i S).size ≤ 40 := by
  intro f
  induction f with
  | zero => intro i S h1 h2; omega
  | succ f ih =>
    intro i S hi hf hS h1
    show 1 ≤ (if _ then _ else _ : ByteArray).size ∧ (if _ then _ else _ : ByteArray).size ≤ 40
    split
    · omega
    · split
      · rename_i hg
        have hz : (S ++ ⟨#[58, 58]⟩ : ByteArray).size = S.size + 2 := by rw [ByteArray.size_append]; rfl
        exact ih (i + b) _ (by omega) (by omega) (by rw [hz]; omega) (Or.inr (by rw [hz]; omega))
      · have hg := hG i (by omega)
        have hl := hexL_len (G i).toNat (by omega)
        have hh : (⟨(hexL (G i).toNat).toArray⟩ : ByteArray).size = (hexL (G i).toNat).length := rfl
        have hz : (sepS S ++ ⟨(hexL (G i).toNat).toArray⟩ : ByteArray).size = (sepS S).size + (hexL (G i).toNat).length := by rw [ByteArray.size_append, hh]
        have := sepS_size S
        exact ih (i + 1) _ (by omega) (by omega) (by rw [hz]; omega) (Or.inr (by rw [hz]; omega))
theorem text6_size (x : BitVec 128) : 1 ≤ (text6 x).size ∧ (text6 x).size ≤ 40 := by
  have hb := bsG_bd (grpX x) 8 0 0 1 (by omega) (by omega) (by omega)
  exact txG_size (grpX x) _ _ hb.1 hb.2 (fun k hk => grpX_bd x k hk) 9 0 ⟨#[]⟩ (by omega) (by omega) (by decide) (Or.inl rfl)
theorem text4_size (x : BitVec 128) : 1 ≤ (text4 x).size ∧ (text4 x).size ≤ 100 := by
  have lt : ∀ k, octN x k < 256 := fun k => by unfold octN; omega
  have h0 := decL_bd (octN x 0) (by have := lt 0; omega)
  have h1 := decL_bd (octN x 1) (by have := lt 1; omega)
  have h2 := decL_bd (octN x 2) (by have := lt 2; omega)
  have h3 := decL_bd (octN x 3) (by have := lt 3; omega)
  unfold text4 dotS
  simp only [ByteArray.size_append]
  have e : ∀ l : List UInt8, (⟨l.toArray⟩ : ByteArray).size = l.length := fun _ => rfl
  have e1 : (⟨#[46]⟩ : ByteArray).size = 1 := rfl
  simp only [e]
  have e2 : (⟨#[46]⟩ : ByteArray).size = 1 := rfl
  have e3 : [(46 : UInt8)].length = 1 := rfl
  omega
def text2 (F : Int) (x : BitVec 128) : ByteArray := if rightE F x = 0 then (if F = 32 then text4 x else text6 x) else ⟨#[]⟩
theorem text2_size (F : Int) (x : BitVec 128) (h : rightE F x = 0) : 1 ≤ (text2 F x).size ∧ (text2 F x).size ≤ 100 := by
  unfold text2
  rw [if_pos h]
  split
  · exact text4_size x
  · have := text6_size x; omega
theorem rtext2_any (F : Int) (x : BitVec 128) (w : World) :
    Calls Tryz.prog 37 #[.int .i64 F, .agg #[.int .u64 (hI x), .int .u64 (lI x)]] w fun e w' => e = .returned (.tuple #[.string (text2 F x), .int .i64 (rightE F x)]) ∧ Below w.heap.size w w' := by
  unfold text2
  by_cases h : rightE F x = 0
  · have hf := (right0 F x h).1
    rw [if_pos h]
    rcases fam_ways F hf with rfl | rfl
    · rw [if_pos rfl, h]; exact rtext_four x w h
    · rw [if_neg (by decide), h]; exact rtext_six x w h
  · rw [if_neg h]; exact rtext_err F x w h

end Go.Proofs.YtpiicdpipjjenaaGreatDoor
namespace Go.Proofs.YtpiicdpipjjenaaGreatDoor
open Go.RowKit
set_option linter.unusedSimpArgs false
set_option linter.unusedVariables false

def cutW (x : BitVec 128) (n : Int) : BitVec 128 := x &&& maskW n
def AtP (w : World) (B : Nat) (x : BitVec 128) (n : Int) : Prop := w.cell? ⟨B, 0, none⟩ = some (.int .u64 (hI x)) ∧ w.cell? ⟨B, 1, none⟩ = some (.int .u64 (lI x)) ∧ w.cell? ⟨B, 2, none⟩ = some (.int .i64 n) ∧ w.frozen? ⟨B, 0, none⟩ = false ∧ w.frozen? ⟨B, 1, none⟩ = false ∧ w.frozen? ⟨B, 2, none⟩ = false
theorem AtP.below {w w' : World} {B : Nat} {x : BitVec 128} {n : Int} (h : AtP w B x n) (hb : Below w.heap.size w w') : AtP w' B x n := by
  obtain ⟨h0, h1, h2, h3, h4, h5⟩ := h
  exact ⟨keepc hb h0, keepc hb h1, keepc hb h2, keepf hb h0 h3, keepf hb h1 h4, keepf hb h2 h5⟩
theorem atp_new (w : World) (B : Nat) (x : BitVec 128) (n : Int) (T : TypeId) (h : B = w.heap.size) : AtP (w.alloc (.cells #[.int .u64 (hI x), .int .u64 (lI x), .int .i64 n] T)) B x n := by
  subst h
  refine ⟨?_, ?_, ?_, ?_, ?_, ?_⟩ <;> simp [go_sem]
theorem bset3 {n C : Nat} {w W : World} (h : Below n w W) (hp : n ≤ C) (u v t : Value) : Below n w (((W.setCell ⟨C, 0, none⟩ u).setCell ⟨C, 1, none⟩ v).setCell ⟨C, 2, none⟩ t) := ((h.setCell hp _).setCell hp _).setCell hp _

set_option maxHeartbeats 1000000 in
theorem cut_any (x : BitVec 128) (n : Int) (w : World) :
    Calls Tryz.prog 58 #[.agg #[.int .u64 (hI x), .int .u64 (lI x)], .int .i64 n] w fun e w' => e = .returned (.agg #[.int .u64 (hI (cutW x n)), .int .u64 (lI (cutW x n)), .int .i64 n]) ∧ Below w.heap.size w w' := by
  have hbl := fun o p => (bl2 w o p).drew
  unfold cutW
  go_enter Tryz.func58, Tryz.ntmps58
  go_wp2
  go_region_held3 (fun w' => w'.cell? ⟨w.heap.size, 0, none⟩ = some (.int .u64 (hI x)) ∧ w'.cell? ⟨w.heap.size, 1, none⟩ = some (.int .u64 (lI x)) ∧ w'.cell? ⟨w.heap.size + 1, 0, none⟩ = some (cv w' (w.heap.size + 1) 0) ∧ w'.cell? ⟨w.heap.size + 1, 1, none⟩ = some (cv w' (w.heap.size + 1) 1) ∧ w'.cell? ⟨w.heap.size + 1, 2, none⟩ = some (cv w' (w.heap.size + 1) 2) ∧ w'.frozen? ⟨w.heap.size + 1, 0, none⟩ = false ∧ w'.frozen? ⟨w.heap.size + 1, 1, none⟩ = false ∧ w'.frozen? ⟨w.heap.size + 1, 2, none⟩ = false ∧ Below w.heap.size w w')
    (first
      | (obtain ⟨k1, k2, k3, k4, k5, k6, k7, k8, k9⟩ := ‹_ ∧ _›; exact ⟨keepc hb2 k1, keepc hb2 k2, cv_of (keepc hb2 k3), cv_of (keepc hb2 k4), cv_of (keepc hb2 k5), keepf hb2 k3 k6, keepf hb2 k4 k7, keepf hb2 k5 k8, keepb hb2 k9⟩)
      | (obtain ⟨k1, k2, k3, k4, k5, k6, k7, k8, k9⟩ := ‹_ ∧ _›; exact ⟨keepc hb1 k1, keepc hb1 k2, cv_of (keepc hb1 k3), cv_of (keepc hb1 k4), cv_of (keepc hb1 k5), keepf hb1 k3 k6, keepf hb1 k4 k7, keepf hb1 k5 k8, keepb hb1 k9⟩)
      | (refine ⟨?_, ?_, cv_new ?_, cv_new ?_, cv_new ?_, ?_, ?_, ?_, ?_⟩ <;> first | (simp [go_sem, *]; done) | exact bset3 (by simp [*]) (by simp) _ _ _))
    (first | (go_at_call 46; refine (mask_any _ _).mono ?_; rintro e w1 ⟨rfl, hb1⟩) | (go_at_call 85; refine (and_any _ _ _).mono ?_; rintro e w2 ⟨rfl, hb2⟩))
  obtain ⟨-, -, -, -, -, -, -, -, kB⟩ := ‹_ ∧ _›
  have e0 : w2.cell? ⟨w.heap.size + 1, 0, none⟩ = some (.int .u64 0) := keepc hb2 (keepc hb1 (by simp [go_sem]))
  have e1 : w2.cell? ⟨w.heap.size + 1, 1, none⟩ = some (.int .u64 0) := keepc hb2 (keepc hb1 (by simp [go_sem]))
  have e2 : w2.cell? ⟨w.heap.size + 1, 2, none⟩ = some (.int .i64 0) := keepc hb2 (keepc hb1 (by simp [go_sem]))
  go_wp2
  exact bodyPost_ret (v := .agg #[.int .u64 (hI (x &&& maskW n)), .int .u64 (lI (x &&& maskW n)), .int .i64 n]) (by simp [results, Tryz.results58, go_sem, e0, e1, e2]) rfl ⟨rfl, kB⟩

theorem eqw (c x : BitVec 128) : ((hI c == hI x) = true ∧ (lI c == lI x) = true ∧ (c == x) = true) ∨ ((hI c == hI x) = false ∧ (c == x) = false) ∨ ((hI c == hI x) = true ∧ (lI c == lI x) = false ∧ (c == x) = false) := by
  rw [← beq_ints c x]
  cases hI c == hI x <;> cases lI c == lI x <;> simp

set_option maxHeartbeats 1000000 in
theorem has_any (x : BitVec 128) (n : Int) (y : BitVec 128) (w : World) :
    Calls Tryz.prog 102 #[.agg #[.int .u64 (hI x), .int .u64 (lI x), .int .i64 n], .agg #[.int .u64 (hI y), .int .u64 (lI y)]] w fun e w' => e = .returned (.bool (cutW y n == x)) ∧ Below w.heap.size w w' := by
  have hbl := fun o p => (bl2 w o p).drew
  have KC := fun w => cut_any y n w
  revert KC
  generalize cutW y n = c
  intro KC
  have hnn : (n == n) = true := by simp
  rcases eqw c x with ⟨q1, q2, q3⟩ | ⟨q1, q3⟩ | ⟨q1, q2, q3⟩
  all_goals
    rw [q3]
    clear q3
    go_enter Tryz.func102, Tryz.ntmps102
    go_wp2
    go_region_held3 (fun w' => w'.cell? ⟨w.heap.size, 0, none⟩ = some (.int .u64 (hI x)) ∧ w'.cell? ⟨w.heap.size, 1, none⟩ = some (.int .u64 (lI x)) ∧ w'.cell? ⟨w.heap.size, 2, none⟩ = some (.int .i64 n) ∧ w'.cell? ⟨w.heap.size + 1, 0, none⟩ = some (.int .u64 (hI y)) ∧ w'.cell? ⟨w.heap.size + 1, 1, none⟩ = some (.int .u64 (lI y)) ∧ Below w.heap.size w w')
      (first
        | (obtain ⟨k1, k2, k3, k4, k5, k9⟩ := ‹_ ∧ _›; exact ⟨keepc hb1 k1, keepc hb1 k2, keepc hb1 k3, keepc hb1 k4, keepc hb1 k5, keepb hb1 k9⟩)
        | (refine ⟨?_, ?_, ?_, ?_, ?_, ?_⟩ <;> first | (simp [go_sem, *]; done) | exact hbl _ _))
      (first | (go_at_call 58; refine (KC _).mono ?_; rintro e w1 ⟨rfl, hb1⟩))
    obtain ⟨-, -, -, -, -, kB⟩ := ‹_ ∧ _›
    go_wp2
    go_ret
    exact ⟨rfl, kB⟩
end Go.Proofs.YtpiicdpipjjenaaGreatDoor
namespace Go.Proofs.YtpiicdpipjjenaaGreatDoor
open Go.RowKit
set_option linter.unusedSimpArgs false
set_option linter.unusedVariables false

def ocB (b : Nat) : Nat := b % 2 + b / 2 % 2 + b / 4 % 2 + b / 8 % 2 + b / 16 % 2 + b / 32 % 2 + b / 64 % 2 + b / 128 % 2
def bm (f : Nat → Nat) : Nat → Nat → Nat
  | 0, _ => 0
  | k + 1, x => f (x % 256) + 256 * bm f k (x / 256)
def mm (m : Nat) : Nat → Nat
  | 0 => 0
  | k + 1 => m + 256 * mm m k
def f1 (b : Nat) : Nat := ((b / 2) &&& 85) + (b &&& 85)
def f2 (b : Nat) : Nat := ((b / 4) &&& 51) + (b &&& 51)
theorem and_split (a m M : Nat) (hm : m < 256) : a &&& (m + 256 * M) = ((a % 256) &&& m) + 256 * ((a / 256) &&& M) := by
  have h1 : (a &&& (m + 256 * M)) % 2 ^ 8 = (a % 2 ^ 8) &&& ((m + 256 * M) % 2 ^ 8) := Nat.and_mod_two_pow
  have h2 : (a &&& (m + 256 * M)) / 2 ^ 8 = (a / 2 ^ 8) &&& ((m + 256 * M) / 2 ^ 8) := Nat.and_div_two_pow
  have e1 : (m + 256 * M) % 2 ^ 8 = m := by omega
  have e2 : (m + 256 * M) / 2 ^ 8 = M := by omega
  rw [e1] at h1
  rw [e2] at h2
  have e3 : (2 : Nat) ^ 8 = 256 := by decide
  rw [e3] at h1 h2
  have := Nat.div_add_mod (a &&& (m + 256 * M)) 256
  omega
set_option maxRecDepth 100000 in
theorem b1 : ∀ b : Fin 256, ∀ c : Fin 2, (b.val / 2 + 128 * c.val) &&& 85 = (b.val / 2) &&& 85 := by decide +kernel
theorem b2 : ∀ b : Fin 256, ∀ c : Fin 4, (b.val / 4 + 64 * c.val) &&& 51 = (b.val / 4) &&& 51 := by decide +kernel
theorem b3 : ∀ b : Fin 256, ∀ c : Fin 5, (f2 (f1 b.val) / 16 + 16 * c.val + f2 (f1 b.val)) &&& 15 = ocB b.val := by decide +kernel
theorem b4 : ∀ b : Fin 256, f1 b.val < 256 ∧ f2 (f1 b.val) % 16 ≤ 4 ∧ f2 (f1 b.val) / 16 ≤ 4 ∧ ocB b.val ≤ 8 ∧ ocB (255 - b.val) + ocB b.val = 8 := by decide +kernel
theorem l1 (k : Nat) : ∀ x, ((x / 2) &&& mm 85 k) + (x &&& mm 85 k) = bm f1 k x := by
  induction k with
  | zero => intro x; simp [mm, bm]
  | succ k ih =>
    intro x
    simp only [mm, bm]
    rw [and_split _ 85 _ (by decide), and_split _ 85 _ (by decide)]
    have e1 : (x / 2) % 256 = (x % 256) / 2 + 128 * (x / 256 % 2) := by omega
    have e2 : x / 2 / 256 = x / 256 / 2 := by omega
    have hb := b1 ⟨x % 256, by omega⟩ ⟨x / 256 % 2, by omega⟩
    have := ih (x / 256)
    rw [e1, e2]
    simp only at hb
    rw [hb]
    have hf : f1 (x % 256) = ((x % 256 / 2) &&& 85) + ((x % 256) &&& 85) := rfl
    omega
theorem l2 (k : Nat) : ∀ x, ((x / 4) &&& mm 51 k) + (x &&& mm 51 k) = bm f2 k x := by
  induction k with
  | zero => intro x; simp [mm, bm]
  | succ k ih =>
    intro x
    simp only [mm, bm]
    rw [and_split _ 51 _ (by decide), and_split _ 51 _ (by decide)]
    have e1 : (x / 4) % 256 = (x % 256) / 4 + 64 * (x / 256 % 4) := by omega
    have e2 : x / 4 / 256 = x / 256 / 4 := by omega
    have hb := b2 ⟨x % 256, by omega⟩ ⟨x / 256 % 4, by omega⟩
    have := ih (x / 256)
    rw [e1, e2]
    simp only at hb
    rw [hb]
    have hf : f2 (x % 256) = ((x % 256 / 4) &&& 51) + ((x % 256) &&& 51) := rfl
    omega
theorem bm_bm (k : Nat) : ∀ x, bm f2 k (bm f1 k x) = bm (fun b => f2 (f1 b)) k x := by
  induction k with
  | zero => intro x; rfl
  | succ k ih =>
    intro x
    have h := (b4 ⟨x % 256, by omega⟩).1
    simp only at h
    simp only [bm]
    have e1 : (f1 (x % 256) + 256 * bm f1 k (x / 256)) % 256 = f1 (x % 256) := by omega
    have e2 : (f1 (x % 256) + 256 * bm f1 k (x / 256)) / 256 = bm f1 k (x / 256) := by omega
    rw [e1, e2, ih]
theorem bm_mod (k : Nat) (x : Nat) : bm (fun b => f2 (f1 b)) k x % 16 ≤ 4 := by
  cases k with
  | zero => simp [bm]
  | succ k =>
    have h := (b4 ⟨x % 256, by omega⟩).2.1
    simp only at h
    simp only [bm]; omega
theorem l3 (k : Nat) : ∀ x, (bm (fun b => f2 (f1 b)) k x / 16 + bm (fun b => f2 (f1 b)) k x) &&& mm 15 k = bm ocB k x := by
  induction k with
  | zero => intro x; simp [mm, bm]
  | succ k ih =>
    intro x
    simp only [mm]
    rw [and_split _ 15 _ (by decide)]
    have hm := bm_mod k (x / 256)
    have h := (b4 ⟨x % 256, by omega⟩).2.1
    have h' := (b4 ⟨x % 256, by omega⟩).2.2.1
    have hb := b3 ⟨x % 256, by omega⟩ ⟨bm (fun b => f2 (f1 b)) k (x / 256) % 16, by omega⟩
    have := ih (x / 256)
    simp only [bm] at *
    generalize bm (fun b => f2 (f1 b)) k (x / 256) = y at *
    generalize f2 (f1 (x % 256)) = g at *
    have e1 : ((g + 256 * y) / 16 + (g + 256 * y)) % 256 = g / 16 + 16 * (y % 16) + g := by omega
    have e2 : ((g + 256 * y) / 16 + (g + 256 * y)) / 256 = y / 16 + y := by omega
    rw [e1, e2, hb, this]
theorem key (n a B z : Nat) (h : a < n) (e : z = a + n * B) : z / n = B := by
  rw [e, Nat.add_mul_div_left _ _ (by omega), Nat.div_eq_of_lt h]; omega
end Go.Proofs.YtpiicdpipjjenaaGreatDoor
