/-
  Part 37 of the proof: 4 texts, one behind the other.
-/
import Derived.Test.YtmeaikmmhgmgnaaGreatPart36
import Derived.Test.YtmeaikmmhgmgnaaGreatPart7
import Derived.Test.YtmeaikmmhgmgnaaGreatPart4
import Derived.Laws.IdiomStrings
import Derived.Test.YtmeaikmmhgmgnaaGreatPart11
import Derived.Test.YtmeaikmmhgmgnaaGreatPart10
import Derived.Test.YtmeaikmmhgmgnaaGreatPart25
import Derived.Test.YtmeaikmmhgmgnaaGreatPart31
import Derived.Test.YtmeaikmmhgmgnaaGreatPart9
import Derived.Test.YtmeaikmmhgmgnaaGreatPart24
import Derived.Lib.AppendStr
import Derived.Lib.UnsafeStr
namespace Go.Proofs.YtmeaikmmhgmgnaaGreat
open Go.RowKit
set_option linter.unusedSimpArgs false
set_option linter.unusedVariables false

def rnG (G : Nat → Int) (i : Nat) : Nat → Nat → Nat
  | 0, n => n
  | f + 1, n => if i + n < 8 ∧ G (i + n) = 0 then rnG G i f (n + 1) else n
def bsG (G : Nat → Int) : Nat → Nat → Nat → Nat → Nat × Nat
  | 0, _, a, b => (a, b)
  | f + 1, i, a, b => if b < rnG G i 9 0 then bsG G f (i + 1) i (rnG G i 9 0) else bsG G f (i + 1) a b
def sepS (s : ByteArray) : ByteArray := if s.size = 0 ∨ byteAt s (s.size - 1) = 58 then s else s ++ ⟨#[58]⟩
def txG (G : Nat → Int) (a b : Nat) : Nat → Nat → ByteArray → ByteArray
  | 0, _, s => s
  | f + 1, i, s => if 8 ≤ i then s else if 1 < b ∧ i = a then txG G a b f (i + b) (s ++ ⟨#[58, 58]⟩) else txG G a b f (i + 1) (sepS s ++ ⟨(hexL (G i).toNat).toArray⟩)
def grpX (x : BitVec 128) (k : Nat) : Int := lI (readW x (16 * (k : Int)) 16)
def text6 (x : BitVec 128) : ByteArray := txG (grpX x) (bsG (grpX x) 8 0 0 1).1 (bsG (grpX x) 8 0 0 1).2 9 0 ⟨#[]⟩
theorem grpX_bd (x : BitVec 128) (k : Nat) (hk : k < 8) : 0 ≤ grpX x k ∧ grpX x k ≤ 65535 := by
  unfold grpX readW
  exact part16_bd x (k : Int)
theorem rnG_bd (G : Nat → Int) (i : Nat) (hi : i ≤ 8) : ∀ f n, i + n ≤ 8 → i + rnG G i f n ≤ 8 ∧ n ≤ rnG G i f n := by
  intro f
  induction f with
  | zero => intro n h; exact ⟨h, Nat.le_refl _⟩
  | succ f ih =>
    intro n h
    by_cases hc : i + n < 8 ∧ G (i + n) = 0
    · have e : rnG G i (f + 1) n = rnG G i f (n + 1) := if_pos hc
      rw [e]
      have := ih (n + 1) (by omega)
      omega
    · have e : rnG G i (f + 1) n = n := if_neg hc
      rw [e]; omega
def cellsG (x : BitVec 128) (k : Nat) : List Int := (List.range k).map (grpX x)
theorem cellsG_succ (x : BitVec 128) (k : Nat) : cellsG x (k + 1) = cellsG x k ++ [grpX x k] := by
  unfold cellsG; rw [List.range_succ, List.map_append]; rfl
theorem cellsG_get (x : BitVec 128) (k : Nat) (hk : k < 8) : (cellsG x 8).getD k 0 = grpX x k := by
  unfold cellsG
  rw [List.getD_eq_getElem?_getD, List.getElem?_map, List.getElem?_range hk]; rfl
theorem row_int2 {w : World} {base e g n cap : Nat} {l : List Int} (h : w.ownsRow base e 1 (.slice (some ⟨g, 0, none⟩) n cap) n (ints l)) (hn : n = l.length) (k : Nat) (hk : k < n) : w.cell? ⟨g, k, none⟩ = some (.int .i64 (l.getD k 0)) := by
  rw [h.cellAt k (by omega)]
  unfold ints
  rw [List.getElem?_map, List.getElem?_eq_getElem (by omega), List.getD_eq_getElem?_getD, List.getElem?_eq_getElem (by omega)]
  rfl

theorem At.gby {w w' : World} {B : Nat} {x : BitVec 128} {row : Option Nat} (h : At w B x) (hg : w.grownBy w' row) (hne : ¬ some B = row) : At w' B x := by
  obtain ⟨h0, h1, h2, h3, h4⟩ := h
  have hb := hg.block B h4 hne
  exact ⟨hg.cell h0 hne, hg.cell h1 hne, (World.frozen?_of_block (a := ⟨B, 0, none⟩) hb).trans h2, (World.frozen?_of_block (a := ⟨B, 1, none⟩) hb).trans h3, Nat.lt_of_lt_of_le h4 hg.size⟩
theorem bsG_bd (G : Nat → Int) : ∀ f i a b, i + f ≤ 8 → 1 ≤ b → a + b ≤ 8 → 1 ≤ (bsG G f i a b).2 ∧ (bsG G f i a b).1 + (bsG G f i a b).2 ≤ 8 := by
  intro f
  induction f with
  | zero => intro i a b _ h1 h2; exact ⟨h1, h2⟩
  | succ f ih =>
    intro i a b hi h1 h2
    by_cases hc : b < rnG G i 9 0
    · have e : bsG G (f + 1) i a b = bsG G f (i + 1) i (rnG G i 9 0) := if_pos hc
      rw [e]
      have := rnG_bd G i (by omega) 9 0 (by omega)
      exact ih _ _ _ (by omega) (by omega) (by omega)
    · have e : bsG G (f + 1) i a b = bsG G f (i + 1) a b := if_neg hc
      rw [e]
      exact ih _ _ _ (by omega) h1 h2

set_option maxHeartbeats 8000000 in
theorem rtext_six (x : BitVec 128) (w : World) (h : rightE 128 x = 0) :
    Calls Tryz.prog 66 #[.int .i64 128, .agg #[.int .u64 (hI x), .int .u64 (lI x)]] w fun e w' => e = .returned (.tuple #[.string (text6 x), .int .i64 0]) ∧ Below w.heap.size w w' := by
  obtain ⟨i0, hi, hz0, hz1, hz2⟩ := info_parts Tryz.infoI
  have KR := fun w => rright_any 128 x w
  rw [h] at KR
  clear h
  go_enter Tryz.func66, Tryz.ntmps66
  go_wp2_with fail
  refine (KR _).mono ?_
  rintro e w1 ⟨rfl, hb1⟩
  have X1 := (at_new w w.heap.size x 35 rfl).below hb1
  have kB1 := keepb hb1 (bl1 w _)
  clear hb1 KR
  go_wp2
  go_loopw [7, 8] (fun a b wr => ∃ (k : Nat) (ao : Option Addr) (cp : Nat), a = .slice ao k cp ∧ b = .int .i64 k ∧ k ≤ 8 ∧ wr.ownsRow (w.heap.size + 1) 3 1 (.slice ao k cp) k (ints (cellsG x k)) ∧ At wr w.heap.size x ∧ Below w.heap.size w wr) (fun _ b _ => 8 - (intOf b).toNat)
  case atStart => exact ⟨0, none, 0, rfl, rfl, by omega, World.ownsRow_nil _ _ _ _, X1, kB1⟩
  case round =>
    clear X1 kB1
    obtain ⟨k, ao, cp, rfl, rfl, hk, hown, X, kB⟩ := hrel
    have hXs := X.2.2.2.2
    by_cases hlt : k < 8
    · have hk2 : (k : Int) < 8 := by omega
      have hum : IntKind.i64.wrap (16 * (k : Int)) = 16 * (k : Int) := by rw [IntKind.wrap_i64]; omega
      have KF := fun w => rfield_in x (16 * (k : Int)) 16 w (by unfold fitB; simp; omega)
      have gb := grpX_bd x k hlt
      have HG : Hid (lI (readW x (16 * (k : Int)) 16) = grpX x k) := rfl
      have HC := cellsG_succ x k
      rw [HG.out] at KF
      generalize grpX x k = v at *
      generalize hI (readW x (16 * (k : Int)) 16) = vh at *
      have hcv : IntKind.i64.wrap v = v := by rw [IntKind.wrap_i64]; omega
      have h63 : k + 1 ≤ maxLen := by unfold maxLen; omega
      have h47 : (k + 1) * 8 ≤ 140737488355328 := by omega
      have HC2 : Hid (cellsG x (k + 1) = cellsG x k ++ [v]) := HC
      clear HC
      obtain ⟨x0, x1, -, -, -⟩ := id X
      go_wp2_with fail
      refine (KF _).mono ?_
      rintro e w5 ⟨rfl, hb5⟩
      clear KF x0 x1
      have X5 := (X.below hb5).below (bl1 _ (.cells #[.int .u64 vh, .int .u64 v] 35))
      have hown := (rowBelow hb5 hown).alloc (.cells #[.int .u64 vh, .int .u64 v] 35)
      have kB5 := (keepb hb5 kB).alloc (keepb hb5 kB).size (.cells #[.int .u64 vh, .int .u64 v] 35)
      have hs5 := hb5.size
      clear X kB hb5
      go_wp2_with (first | (at_builtin; refine wpList_append_lies _ rfl _ _ 89 rfl (w.heap.size + 1) 3 i0 (.int .i64 0) 1 8 Tryz.underlying89 hi hz0 hz1 hz2 rfl (by decide) _ _ _ rfl (hown.alloc _) ⟨w5.heap.size + 1, 0, none⟩ 1 1 [.int .i64 v] rfl rfl (by simpa using newsS (w5.alloc (.cells #[.int .u64 vh, .int .u64 v] 35)) (.int .i64 v) 3) (oneI _) (by decide) h63 h47 (by simp; omega) _ rfl ?_; intro g5 cap5 w6 hown5 hgrow hat hlt5))
      have kB6 : Below w.heap.size w w6 := (kB5.alloc kB5.size _).grown hgrow (by have := kB5.size; simp at this ⊢; omega) (fun q hq => by have := (hown.lt q hq).1; omega)
      have X6 := (X5.below (bl1 _ _)).gby hgrow (fun e => by have := (hown.lt _ e.symm).1; omega)
      clear hgrow hat
      go_roundw
      case rel => exact ⟨k + 1, some ⟨g5, 0, none⟩, cap5, rfl, by go_num, by omega, by rw [HC2.out]; simpa [ints] using hown5, X6, kB6⟩
      case measure => simp [intOf]; omega
    · have hk8 : k = 8 := by omega
      subst hk8
      obtain ⟨g, c2, hv, -, -⟩ := hown.form (by omega)
      have hv2 : ao = some ⟨g, 0, none⟩ ∧ cp = c2 := by
        injection hv with e1 e2 e3; exact ⟨e1, e3⟩
      obtain ⟨rfl, rfl⟩ := hv2
      have hrow : Hid (∀ k, k < 8 → wr.cell? ⟨g, k, none⟩ = some (.int .i64 (grpX x k))) := fun k hk => by
        rw [row_int2 hown (by simp [cellsG]) k hk, cellsG_get x k hk]
      have hG : Hid (∀ k, k < 8 → 0 ≤ grpX x k ∧ grpX x k ≤ 65535) := fun k hk => grpX_bd x k hk
      have HT : Hid (text6 x = txG (grpX x) (bsG (grpX x) 8 0 0 1).1 (bsG (grpX x) 8 0 0 1).2 9 0 ⟨#[]⟩) := rfl
      clear hown hv X hXs
      generalize grpX x = G at *
      go_wp2
      go_loopw [11, 12, 13] (fun p q r wz => ∃ (i a b : Nat), p = .int .i64 a ∧ q = .int .i64 b ∧ r = .int .i64 i ∧ i ≤ 8 ∧ 1 ≤ b ∧ a + b ≤ 8 ∧ Hid (bsG G (8 - i) i a b = bsG G 8 0 0 1) ∧ wz = wr) (fun _ _ r _ => 8 - (intOf r).toNat)
      case atStart => exact ⟨0, 0, 1, rfl, rfl, rfl, by omega, by omega, by omega, rfl, rfl⟩
      case round =>
        obtain ⟨i, a, b, rfl, rfl, rfl, hi8, hb1, hab, HR, rfl⟩ := hrel
        by_cases hlt : i < 8
        · have hi2 : (i : Int) < 8 := by omega
          have HU : Hid (8 - i = (8 - (i + 1)) + 1) := by show _ = _; omega
          have HS : Hid (∀ f, bsG G (f + 1) i a b = if b < rnG G i 9 0 then bsG G f (i + 1) i (rnG G i 9 0) else bsG G f (i + 1) a b) := fun _ => rfl
          have hrb := rnG_bd G i (by omega) 9 0 (by omega)
          go_wp2
          go_loopw [14] (fun p wz2 => ∃ n : Nat, p = .int .i64 n ∧ i + n ≤ 8 ∧ Hid (rnG G i (9 - n) n = rnG G i 9 0) ∧ wz2 = wr) (fun p _ => 9 - (intOf p).toNat)
          case atStart => exact ⟨0, rfl, by omega, rfl, rfl⟩
          case round =>
            obtain ⟨n, rfl, hn, HN, rfl⟩ := hrel
            have hui : IntKind.i64.wrap ((i : Int) + (n : Int)) = (i : Int) + (n : Int) := by rw [IntKind.wrap_i64]; omega
            have HUN : Hid (9 - n = (9 - (n + 1)) + 1) := by show _ = _; omega
            have HSN : Hid (∀ f, rnG G i (f + 1) n = if i + n < 8 ∧ G (i + n) = 0 then rnG G i f (n + 1) else n) := fun _ => rfl
            by_cases hc : i + n < 8
            · have hcell := hrow.out (i + n) hc
              have hc2 : (i : Int) + (n : Int) < 8 := by omega
              obtain ⟨m, HM⟩ : ∃ m, Hid (i + n = m) := ⟨_, rfl⟩
              have hm : (i : Int) + (n : Int) = (m : Int) := by have := HM.out; omega
              have hm2 : (m : Int) < 8 := by omega
              have hum : IntKind.i64.wrap (m : Int) = (m : Int) := by rw [IntKind.wrap_i64]; omega
              rw [HM.out] at hcell
              have HSN2 : Hid (rnG G i (9 - n) n = if G m = 0 then rnG G i (9 - (n + 1)) (n + 1) else n) := by
                show _ = _
                rw [HUN.out, HSN.out, HM.out]
                by_cases q : G m = 0
                · rw [if_pos ⟨by have := HM.out; omega, q⟩, if_pos q]
                · rw [if_neg (fun z => q z.2), if_neg q]
              generalize G m = v at *
              clear hui HUN HSN
              by_cases hv0 : v = 0
              · have HF : Hid (rnG G i (9 - (n + 1)) (n + 1) = rnG G i 9 0) := by show _ = _; rw [← HN.out, HSN2.out, if_pos hv0]
                subst hv0
                clear HSN2 HN
                go_wp2
                go_roundw
                case rel => exact ⟨n + 1, by go_num, by omega, HF, trivial⟩
                case measure => simp [intOf]; omega
              · have HF : Hid (rnG G i 9 0 = n) := by show _ = _; rw [← HN.out, HSN2.out, if_neg hv0]
                have hvb : (v == 0) = false := by simp [hv0]
                clear HSN2 HN
                by_cases hbn : b < n
                · have hbn2 : (b : Int) < (n : Int) := by omega
                  have HR2 : Hid (bsG G (8 - (i + 1)) (i + 1) i n = bsG G 8 0 0 1) := by show _ = _; rw [← HR.out, HU.out, HS.out, HF.out, if_pos hbn]
                  clear HR HS HU HF
                  go_wp2
                  go_roundw
                  case rel => exact ⟨i + 1, i, n, rfl, rfl, by go_num, by omega, by omega, by omega, HR2, trivial⟩
                  case measure => simp [intOf]; omega
                · have hbn2 : ¬ (b : Int) < (n : Int) := by omega
                  have HR2 : Hid (bsG G (8 - (i + 1)) (i + 1) a b = bsG G 8 0 0 1) := by show _ = _; rw [← HR.out, HU.out, HS.out, HF.out, if_neg hbn]
                  clear HR HS HU HF
                  go_wp2
                  go_roundw
                  case rel => exact ⟨i + 1, a, b, rfl, rfl, by go_num, by omega, by omega, by omega, HR2, trivial⟩
                  case measure => simp [intOf]; omega
            · have hc2 : ¬ (i : Int) + (n : Int) < 8 := by omega
              have HF : Hid (rnG G i 9 0 = n) := by show _ = _; rw [← HN.out, HUN.out, HSN.out, if_neg (fun z => hc z.1)]
              clear HUN HSN HN
              by_cases hbn : b < n
              · have hbn2 : (b : Int) < (n : Int) := by omega
                have HR2 : Hid (bsG G (8 - (i + 1)) (i + 1) i n = bsG G 8 0 0 1) := by show _ = _; rw [← HR.out, HU.out, HS.out, HF.out, if_pos hbn]
                clear HR HS HU HF
                go_wp2
                go_roundw
                case rel => exact ⟨i + 1, i, n, rfl, rfl, by go_num, by omega, by omega, by omega, HR2, trivial⟩
                case measure => simp [intOf]; omega
              · have hbn2 : ¬ (b : Int) < (n : Int) := by omega
                have HR2 : Hid (bsG G (8 - (i + 1)) (i + 1) a b = bsG G 8 0 0 1) := by show _ = _; rw [← HR.out, HU.out, HS.out, HF.out, if_neg hbn]
                clear HR HS HU HF
                go_wp2
                go_roundw
                case rel => exact ⟨i + 1, a, b, rfl, rfl, by go_num, by omega, by omega, by omega, HR2, trivial⟩
                case measure => simp [intOf]; omega
        · have hi8' : i = 8 := by omega
          subst hi8'
          have HB : Hid (bsG G 8 0 0 1 = (a, b)) := by show _ = _; rw [← HR.out]; rfl
          have HT2 : Hid (text6 x = txG G a b 9 0 ⟨#[]⟩) := by show _ = _; rw [HT.out, HB.out]
          clear HR HT HB
          go_wp2
          go_loopw [15, 16] (fun p q wz => ∃ (f i : Nat) (S : ByteArray), p = .string S ∧ q = .int .i64 i ∧ i ≤ 8 ∧ S.size ≤ 5 * i ∧ 8 < i + f ∧ Hid (txG G a b f i S = text6 x) ∧ Hid (∀ k, k < 8 → wz.cell? ⟨g, k, none⟩ = some (.int .i64 (G k))) ∧ Below w.heap.size w wz) (fun _ q _ => 8 - (intOf q).toNat)
          case atStart => exact ⟨9, 0, ⟨#[]⟩, rfl, rfl, by omega, by decide, by omega, HT2.out.symm, hrow, kB⟩
          case round =>
            clear hrow kB HT2
            obtain ⟨f, i, S, rfl, rfl, hi8, hS, hf, HX, hrow, kB⟩ := hrel
            obtain ⟨f, rfl⟩ : ∃ k, f = k + 1 := ⟨f - 1, by omega⟩
            have HS : Hid (txG G a b (f + 1) i S = if 8 ≤ i then S else if 1 < b ∧ i = a then txG G a b f (i + b) (S ++ ⟨#[58, 58]⟩) else txG G a b f (i + 1) (sepS S ++ ⟨(hexL (G i).toNat).toArray⟩)) := rfl
            by_cases hlt : i < 8
            · have hi2 : (i : Int) < 8 := by omega
              by_cases hgap : 1 < b ∧ i = a
              · obtain ⟨hb2, rfl⟩ := hgap
                have HF : Hid (txG G i b f (i + b) (S ++ ⟨#[58, 58]⟩) = text6 x) := by show _ = _; rw [← HX.out, HS.out, if_neg (by omega), if_pos ⟨hb2, rfl⟩]
                have hb3 : (1 : Int) < (b : Int) := by omega
                have hu1 : IntKind.i64.wrap ((i : Int) + (b : Int)) = (i : Int) + (b : Int) := by rw [IntKind.wrap_i64]; omega
                have hu2 : IntKind.i64.wrap ((i : Int) + (b : Int) - 1) = (i : Int) + (b : Int) - 1 := by rw [IntKind.wrap_i64]; omega
                have hsz : (S ++ ⟨#[58, 58]⟩ : ByteArray).size = S.size + 2 := by rw [ByteArray.size_append]; rfl
                clear HS HX
                go_wp2
                go_roundw
                case rel => exact ⟨f, i + b, S ++ ⟨#[58, 58]⟩, rfl, by go_num, by omega, by rw [hsz]; omega, by omega, HF, hrow, kB⟩
                case measure => simp [intOf]; omega
              · have HF : Hid (txG G a b f (i + 1) (sepS S ++ ⟨(hexL (G i).toNat).toArray⟩) = text6 x) := by show _ = _; rw [← HX.out, HS.out, if_neg (by omega), if_neg hgap]
                have hcell := hrow.out i hlt
                obtain ⟨v0, v1⟩ := hG.out i hlt
                obtain ⟨v, hv⟩ := Int.eq_ofNat_of_zero_le v0
                rw [hv] at hcell
                have KH := fun w => rhex_any v w (by omega)
                have hHb : (⟨(hexL v).toArray⟩ : ByteArray).size ≤ 4 := (hexL_len v (by omega)).2
                have HF2 : Hid (txG G a b f (i + 1) (sepS S ++ ⟨(hexL v).toArray⟩) = text6 x) := by
                  have := HF.out
                  rw [hv, Int.toNat_natCast] at this; exact this
                clear HF HS HX v0 v1 hv
                generalize (⟨(hexL v).toArray⟩ : ByteArray) = HV at *
                have hcond : Hid ((1 < b ∧ i = a) = False) := by show _ = _; simp [hgap]
                have hg2 : 1 < b → ¬ (i : Int) = (a : Int) := fun q e => hgap ⟨q, by omega⟩
                clear hgap
                by_cases h0 : S.size = 0
                · have hem : S.toList.isEmpty = true := by rw [empty_is]; simp [h0]
                  have HSep : Hid (sepS S = S) := by show _ = _; unfold sepS; rw [if_pos (Or.inl h0)]
                  rw [HSep.out] at HF2
                  have hz2 : (S ++ HV).size = S.size + HV.size := ByteArray.size_append
                  by_cases hb2 : 1 < b
                  · have hb3 : (1 : Int) < (b : Int) := by omega
                    have hne : ((i : Int) == (a : Int)) = false := by simp; have := hg2 hb2; omega
                    clear hg2
                    go_wp2_with fail
                    refine (KH _).mono ?_
                    rintro e w5 ⟨rfl, hb5⟩
                    clear KH hcell
                    have hrow5 : Hid (∀ k, k < 8 → w5.cell? ⟨g, k, none⟩ = some (.int .i64 (G k))) := fun k hk => keepc hb5 (hrow.out k hk)
                    have kB5 := keepb hb5 kB
                    clear hb5 hrow kB
                    go_wp2
                    go_roundw
                    case rel => first | exact ⟨f, i + 1, S ++ HV, rfl, by go_num, by omega, by rw [hz2]; omega, by omega, HF2, hrow5, kB5⟩ | ((repeat apply Exists.intro); exact ⟨⟨f, i + 1, S ++ HV, rfl, by go_num, by omega, by rw [hz2]; omega, by omega, HF2, hrow5, kB5⟩, rfl⟩)
                    case measure => simp [intOf]; omega
                  · have hb3 : ¬ (1 : Int) < (b : Int) := by omega
                    clear hg2
                    go_wp2_with fail
                    refine (KH _).mono ?_
                    rintro e w5 ⟨rfl, hb5⟩
                    clear KH hcell
                    have hrow5 : Hid (∀ k, k < 8 → w5.cell? ⟨g, k, none⟩ = some (.int .i64 (G k))) := fun k hk => keepc hb5 (hrow.out k hk)
                    have kB5 := keepb hb5 kB
                    clear hb5 hrow kB
                    go_wp2
                    go_roundw
                    case rel => first | exact ⟨f, i + 1, S ++ HV, rfl, by go_num, by omega, by rw [hz2]; omega, by omega, HF2, hrow5, kB5⟩ | ((repeat apply Exists.intro); exact ⟨⟨f, i + 1, S ++ HV, rfl, by go_num, by omega, by rw [hz2]; omega, by omega, HF2, hrow5, kB5⟩, rfl⟩)
                    case measure => simp [intOf]; omega
                · have hem : S.toList.isEmpty = false := by rw [empty_is]; simp [h0]
                  have hbt := byteAt_in S (S.size - 1) (by omega)
                  have hsi : (S.size : Int) - 1 = ((S.size - 1 : Nat) : Int) := by omega
                  obtain ⟨m, HM⟩ : ∃ m, Hid (S.size - 1 = m) := ⟨_, rfl⟩
                  have hmm : (S.size : Int) - 1 = (m : Int) := by have := HM.out; omega
                  have hms : m < S.size := by have := HM.out; omega
                  have hum : IntKind.i64.wrap (m : Int) = (m : Int) := by rw [IntKind.wrap_i64]; omega
                  have hbt := byteAt_in S m hms
                  have HSep : Hid (sepS S = if byteAt S m = 58 then S else S ++ ⟨#[58]⟩) := by
                    show _ = _
                    unfold sepS
                    rw [HM.out]
                    by_cases q : byteAt S m = 58
                    · rw [if_pos (Or.inr q), if_pos q]
                    · rw [if_neg (by simp [h0, q]), if_neg q]
                  clear hsi
                  generalize byteAt S m = lc at *
                  by_cases hl : lc = 58
                  · subst hl
                    rw [HSep.out, if_pos rfl] at HF2
                    have hz2 : (S ++ HV).size = S.size + HV.size := ByteArray.size_append
                    by_cases hb2 : 1 < b
                    · have hb3 : (1 : Int) < (b : Int) := by omega
                      have hne : ((i : Int) == (a : Int)) = false := by simp; have := hg2 hb2; omega
                      clear hg2
                      go_wp2_with fail
                      refine (KH _).mono ?_
                      rintro e w5 ⟨rfl, hb5⟩
                      clear KH hcell
                      have hrow5 : Hid (∀ k, k < 8 → w5.cell? ⟨g, k, none⟩ = some (.int .i64 (G k))) := fun k hk => keepc hb5 (hrow.out k hk)
                      have kB5 := keepb hb5 kB
                      clear hb5 hrow kB
                      go_wp2
                      go_roundw
                      case rel => first | exact ⟨f, i + 1, S ++ HV, rfl, by go_num, by omega, by rw [hz2]; omega, by omega, HF2, hrow5, kB5⟩ | ((repeat apply Exists.intro); exact ⟨⟨f, i + 1, S ++ HV, rfl, by go_num, by omega, by rw [hz2]; omega, by omega, HF2, hrow5, kB5⟩, rfl⟩)
                      case measure => simp [intOf]; omega
                    · have hb3 : ¬ (1 : Int) < (b : Int) := by omega
                      clear hg2
                      go_wp2_with fail
                      refine (KH _).mono ?_
                      rintro e w5 ⟨rfl, hb5⟩
                      clear KH hcell
                      have hrow5 : Hid (∀ k, k < 8 → w5.cell? ⟨g, k, none⟩ = some (.int .i64 (G k))) := fun k hk => keepc hb5 (hrow.out k hk)
                      have kB5 := keepb hb5 kB
                      clear hb5 hrow kB
                      go_wp2
                      go_roundw
                      case rel => first | exact ⟨f, i + 1, S ++ HV, rfl, by go_num, by omega, by rw [hz2]; omega, by omega, HF2, hrow5, kB5⟩ | ((repeat apply Exists.intro); exact ⟨⟨f, i + 1, S ++ HV, rfl, by go_num, by omega, by rw [hz2]; omega, by omega, HF2, hrow5, kB5⟩, rfl⟩)
                      case measure => simp [intOf]; omega
                  · rw [HSep.out, if_neg hl] at HF2
                    have hlb : (lc != 58) = true := by simp [hl]
                    have hz1 : (S ++ ⟨#[58]⟩ : ByteArray).size = S.size + 1 := by rw [ByteArray.size_append]; rfl
                    have hz2 : (S ++ ⟨#[58]⟩ ++ HV).size = S.size + 1 + HV.size := by rw [ByteArray.size_append, hz1]
                    by_cases hb2 : 1 < b
                    · have hb3 : (1 : Int) < (b : Int) := by omega
                      have hne : ((i : Int) == (a : Int)) = false := by simp; have := hg2 hb2; omega
                      clear hg2
                      go_wp2_with fail
                      refine (KH _).mono ?_
                      rintro e w5 ⟨rfl, hb5⟩
                      clear KH hcell
                      have hrow5 : Hid (∀ k, k < 8 → w5.cell? ⟨g, k, none⟩ = some (.int .i64 (G k))) := fun k hk => keepc hb5 (hrow.out k hk)
                      have kB5 := keepb hb5 kB
                      clear hb5 hrow kB
                      go_wp2
                      go_roundw
                      case rel => first | exact ⟨f, i + 1, S ++ ⟨#[58]⟩ ++ HV, rfl, by go_num, by omega, by rw [hz2]; omega, by omega, HF2, hrow5, kB5⟩ | ((repeat apply Exists.intro); exact ⟨⟨f, i + 1, S ++ ⟨#[58]⟩ ++ HV, rfl, by go_num, by omega, by rw [hz2]; omega, by omega, HF2, hrow5, kB5⟩, rfl⟩)
                      case measure => simp [intOf]; omega
                    · have hb3 : ¬ (1 : Int) < (b : Int) := by omega
                      clear hg2
                      go_wp2_with fail
                      refine (KH _).mono ?_
                      rintro e w5 ⟨rfl, hb5⟩
                      clear KH hcell
                      have hrow5 : Hid (∀ k, k < 8 → w5.cell? ⟨g, k, none⟩ = some (.int .i64 (G k))) := fun k hk => keepc hb5 (hrow.out k hk)
                      have kB5 := keepb hb5 kB
                      clear hb5 hrow kB
                      go_wp2
                      go_roundw
                      case rel => first | exact ⟨f, i + 1, S ++ ⟨#[58]⟩ ++ HV, rfl, by go_num, by omega, by rw [hz2]; omega, by omega, HF2, hrow5, kB5⟩ | ((repeat apply Exists.intro); exact ⟨⟨f, i + 1, S ++ ⟨#[58]⟩ ++ HV, rfl, by go_num, by omega, by rw [hz2]; omega, by omega, HF2, hrow5, kB5⟩, rfl⟩)
                      case measure => simp [intOf]; omega
            · have hi2 : ¬ (i : Int) < 8 := by omega
              have HF : Hid (text6 x = S) := by show _ = _; rw [← HX.out, HS.out, if_pos (by omega)]
              clear HX HS
              go_wp2
              go_ret2
              exact ⟨by rw [HF.out]; rfl, kB⟩
end Go.Proofs.YtmeaikmmhgmgnaaGreat
namespace Go.Proofs.YtmeaikmmhgmgnaaGreat
open Go.RowKit
set_option linter.unusedSimpArgs false
set_option linter.unusedVariables false

theorem sepS_size (S : ByteArray) : (sepS S).size ≤ S.size + 1 := by
  unfold sepS
  split
  · omega
  · rw [ByteArray.size_append]; exact Nat.le_refl _
theorem txG_size (G : Nat → Int) (a b : Nat) (hb : 1 ≤ b) (hab : a + b ≤ 8) (hG : ∀ k, k < 8 → 0 ≤ G k ∧ G k ≤ 65535) : ∀ f i (S : ByteArray), i ≤ 8 → 8 < i + f → S.size ≤ 5 * i → (i = 0 ∨ 1 ≤ S.size) → 1 ≤ (txG G a b f i S).size ∧ (txG G a b f i S).size ≤ 40 := by
  intro f
  induction f with
  | zero => intro i S h1 h2; omega
  | succ f ih =>
    intro i S hi hf hS h1
    show 1 ≤ (if _ then _ else _ : ByteArray).size ∧ (if _ then _ else _ : ByteArray).size ≤ 40
    split
    · omega
    · split
      · rename_i hg
        have hz : (S ++ ⟨#[58, 58]⟩ : ByteArray).size = S.size + 2 := by rw [ByteArray.size_append]; rfl
        exact ih (i + b) _ (by omega) (by omega) (by rw [hz]; omega) (Or.inr (by rw [hz]; omega))
      · have hg := hG i (by omega)
        have hl := hexL_len (G i).toNat (by omega)
        have hh : (⟨(hexL (G i).toNat).toArray⟩ : ByteArray).size = (hexL (G i).toNat).length := rfl
        have hz : (sepS S ++ ⟨(hexL (G i).toNat).toArray⟩ : ByteArray).size = (sepS S).size + (hexL (G i).toNat).length := by rw [ByteArray.size_append, hh]
        have := sepS_size S
        exact ih (i + 1) _ (by omega) (by omega) (by rw [hz]; omega) (Or.inr (by rw [hz]; omega))
theorem text6_size (x : BitVec 128) : 1 ≤ (text6 x).size ∧ (text6 x).size ≤ 40 := by
  have hb := bsG_bd (grpX x) 8 0 0 1 (by omega) (by omega) (by omega)
  exact txG_size (grpX x) _ _ hb.1 hb.2 (fun k hk => grpX_bd x k hk) 9 0 ⟨#[]⟩ (by omega) (by omega) (by decide) (Or.inl rfl)
theorem text4_size (x : BitVec 128) : 1 ≤ (text4 x).size ∧ (text4 x).size ≤ 100 := by
  have lt : ∀ k, octN x k < 256 := fun k => by unfold octN; omega
  have h0 := decL_bd (octN x 0) (by have := lt 0; omega)
  have h1 := decL_bd (octN x 1) (by have := lt 1; omega)
  have h2 := decL_bd (octN x 2) (by have := lt 2; omega)
  have h3 := decL_bd (octN x 3) (by have := lt 3; omega)
  unfold text4 dotS
  simp only [ByteArray.size_append]
  have e : ∀ l : List UInt8, (⟨l.toArray⟩ : ByteArray).size = l.length := fun _ => rfl
  have e1 : (⟨#[46]⟩ : ByteArray).size = 1 := rfl
  simp only [e]
  have e2 : (⟨#[46]⟩ : ByteArray).size = 1 := rfl
  have e3 : [(46 : UInt8)].length = 1 := rfl
  omega
def text2 (F : Int) (x : BitVec 128) : ByteArray := if rightE F x = 0 then (if F = 32 then text4 x else text6 x) else ⟨#[]⟩
theorem text2_size (F : Int) (x : BitVec 128) (h : rightE F x = 0) : 1 ≤ (text2 F x).size ∧ (text2 F x).size ≤ 100 := by
  unfold text2
  rw [if_pos h]
  split
  · exact text4_size x
  · have := text6_size x; omega
theorem rtext2_any (F : Int) (x : BitVec 128) (w : World) :
    Calls Tryz.prog 66 #[.int .i64 F, .agg #[.int .u64 (hI x), .int .u64 (lI x)]] w fun e w' => e = .returned (.tuple #[.string (text2 F x), .int .i64 (rightE F x)]) ∧ Below w.heap.size w w' := by
  unfold text2
  by_cases h : rightE F x = 0
  · have hf := (right0 F x h).1
    rw [if_pos h]
    rcases fam_ways F hf with rfl | rfl
    · rw [if_pos rfl, h]; exact rtext_four x w h
    · rw [if_neg (by decide), h]; exact rtext_six x w h
  · rw [if_neg h]; exact rtext_err F x w h

theorem str_bytes (s : ByteArray) (w : World) : ∃ cap W, (convert 9 53 (.string s)).run Tryz.prog w = .ok (.slice (some ⟨w.heap.size, 0, none⟩) s.size cap) W ∧ (∀ j, j < s.size → W.cell? ⟨w.heap.size, j, none⟩ = some (.int .u8 (byteAt s j)) ∧ W.frozen? ⟨w.heap.size, j, none⟩ = false) ∧ Below w.heap.size w W ∧ w.heap.size < W.heap.size := by
  refine ⟨_, _, run_bytes_of_string (P := Tryz.prog) w 9 53 5 s Tryz.underlying9 Tryz.underlying53 Tryz.underlying5, ?_, ?_, ?_⟩
  · intro j hj
    have hj' : j < s.data.size := hj
    have hb := bytesRow_at s (grownCap w s.size 0 5) j hj'
    have hbd : (s.data[j].toNat : Int) = byteAt s j := by
      have := byteAt_in s j hj
      exact this
    rw [hbd] at hb
    have hlt : j < (bytesRow s (grownCap w s.size 0 5)).size := by
      have := (Array.getElem?_eq_some_iff.mp hb).1
      exact this
    have hh := heap_alloc_new w.drew (.cells (bytesRow s (grownCap w s.size 0 5)) 5 ((bytesRow s (grownCap w s.size 0 5)).size, (bytesRow s (grownCap w s.size 0 5)).size + 1))
    have hh' : (w.drew.alloc (.cells (bytesRow s (grownCap w s.size 0 5)) 5 ((bytesRow s (grownCap w s.size 0 5)).size, (bytesRow s (grownCap w s.size 0 5)).size + 1))).heap[w.heap.size]? = some (.cells (bytesRow s (grownCap w s.size 0 5)) 5 ((bytesRow s (grownCap w s.size 0 5)).size, (bytesRow s (grownCap w s.size 0 5)).size + 1)) := hh
    refine ⟨?_, ?_⟩
    · unfold World.cell?
      rw [hh']
      exact hb
    · unfold World.frozen?
      rw [hh']
      simp; omega
  · exact (Below.refl _ _).drew.alloc (Nat.le_refl _) _
  · simp
end Go.Proofs.YtmeaikmmhgmgnaaGreat
namespace Go.Proofs.YtmeaikmmhgmgnaaGreat
open Go.RowKit
set_option linter.unusedSimpArgs false
set_option linter.unusedVariables false

theorem decF_len9 : ∀ (f m : Nat) (t : List UInt8), (decF f m t).length ≤ t.length + f
  | 0, _, t => Nat.le_refl _
  | f + 1, m, t => by
    show (if m = 0 ∧ ¬ t = [] then t else decF f (m / 10) (UInt8.ofNat (48 + m % 10) :: t)).length ≤ _
    split
    · omega
    · have := decF_len9 f (m / 10) (UInt8.ofNat (48 + m % 10) :: t)
      rw [List.length_cons] at this
      omega
theorem decL_len9 (n : Nat) : (decL n).length ≤ 20 := by
  have := decF_len9 20 n []
  simpa [decL] using this
theorem check_bd (F : Int) (x : BitVec 128) (n : Int) (h : checkE F x n = 0) : fam F = true ∧ Rt F x n ∧ rightE F x = 0 := by
  unfold checkE at h
  by_cases hf : fam F = true
  · rw [if_pos hf] at h
    by_cases h1 : n < 0
    · rw [if_pos h1] at h; omega
    rw [if_neg h1] at h
    by_cases h2 : F < n
    · rw [if_pos h2] at h; omega
    rw [if_neg h2] at h
    by_cases h3 : (cutW x n == x) = true
    · have hx : cutW x n = x := by simpa using h3
      refine ⟨hf, ⟨by omega, by omega, hx⟩, ?_⟩
      unfold rightE
      rw [if_pos hf, if_pos]
      have := cut_cut2 x n F (by omega) (by omega)
      rw [hx] at this
      exact this
    · rw [if_neg h3] at h; omega
  · rw [if_neg hf] at h; omega
theorem fam_le (F : Int) (h : fam F = true) : 32 ≤ F ∧ F ≤ 128 := by rcases fam_ways F h with rfl | rfl <;> omega
def ptxD (F : Int) (x : BitVec 128) (n : Int) : ByteArray := if checkE F x n = 0 then text2 F x ++ ⟨#[47]⟩ ++ ⟨(decL n.toNat).toArray⟩ else ⟨#[]⟩
set_option maxHeartbeats 2000000 in
theorem rptextD_any (F : Int) (x : BitVec 128) (n : Int) (w : World) :
    Calls Tryz.prog 41 #[.int .i64 F, .agg #[.int .u64 (hI x), .int .u64 (lI x), .int .i64 n]] w fun e w' => e = .returned (.tuple #[.string (ptxD F x n), .int .i64 (checkE F x n)]) ∧ Below w.heap.size w w' := by
  have KC := fun w => rcheck_any F x n w
  unfold ptxD
  by_cases h : checkE F x n = 0
  · rw [h] at KC
    rw [if_pos h, h]
    obtain ⟨hf, ⟨h0, h1, hx⟩, hr⟩ := check_bd F x n h
    have hF := fam_le F hf
    have KT := fun w => rtext2_any F x w
    rw [hr] at KT
    have KD := fun w => rdec_any n.toNat w (by omega)
    rw [show ((n.toNat : Nat) : Int) = n by omega] at KD
    have ht := (text2_size F x hr).2
    have hl := decL_len9 n.toNat
    generalize text2 F x = t at *
    generalize hd : (⟨(decL n.toNat).toArray⟩ : ByteArray) = d at *
    have hds : d.size ≤ 21 := by rw [← hd]; exact Nat.le_trans hl (by omega)
    have hlen1 : ¬ 9223372036854775807 < t.size + 1 := by omega
    have hlen2 : ¬ 9223372036854775807 < t.size + 1 + d.size := by omega
    clear hd hl h hr hf hx
    go_enter Tryz.func41, Tryz.ntmps41
    go_wp2_with fail
    refine (KC _).mono ?_
    rintro e w1 ⟨rfl, hb1⟩
    have P1 := (atp_new w w.heap.size x n 37 rfl).below hb1
    have kB1 := keepb hb1 (bl1 w _)
    clear hb1 KC
    obtain ⟨p0, p1, p2, -, -, -⟩ := id P1
    go_wp2_with fail
    refine (KT _).mono ?_
    rintro e w2 ⟨rfl, hb2⟩
    have kB2 := keepb hb2 kB1
    clear p0 p1 p2
    obtain ⟨p0, p1, p2, -, -, -⟩ := P1.below hb2
    clear hb2 KT kB1 P1
    go_wp2_with fail
    refine (KD _).mono ?_
    rintro e w3 ⟨rfl, hb3⟩
    have kB3 := keepb hb3 kB2
    clear hb3 KD kB2
    go_wp2
    go_ret2
    exact ⟨rfl, kB3⟩
  · have hb : (checkE F x n != 0) = true := by simp [h]
    rw [if_neg h]
    clear h
    generalize checkE F x n = c at *
    go_enter Tryz.func41, Tryz.ntmps41
    go_wp2_with fail
    refine (KC _).mono ?_
    rintro e w1 ⟨rfl, hb1⟩
    have kB1 := keepb hb1 (bl1 w _)
    clear hb1 KC
    go_wp2
    go_ret2
    exact ⟨rfl, kB1⟩
end Go.Proofs.YtmeaikmmhgmgnaaGreat
namespace Go.Proofs.YtmeaikmmhgmgnaaGreat
open Go.RowKit
set_option linter.unusedSimpArgs false
set_option linter.unusedVariables false

def lnT (F : Int) (r : Rte) : List UInt8 := (ptxD F r.1.1 r.1.2).data.toList ++ [32] ++ decL r.2.toNat ++ [10]
def tx5 (F : Int) : List Rte → List UInt8
  | [] => []
  | r :: l => lnT F r ++ tx5 F l
theorem tx5_app (F : Int) : ∀ l m, tx5 F (l ++ m) = tx5 F l ++ tx5 F m
  | [], m => rfl
  | r :: l, m => by show lnT F r ++ tx5 F (l ++ m) = lnT F r ++ tx5 F l ++ tx5 F m; rw [tx5_app F l m, List.append_assoc]
theorem ptxD_size (F : Int) (x : BitVec 128) (n : Int) : (ptxD F x n).size ≤ 121 := by
  unfold ptxD
  split
  · rename_i h
    obtain ⟨hf, hr, hr2⟩ := check_bd F x n h
    have h1 := (text2_size F x hr2).2
    have h2 := decL_len9 n.toNat
    rw [ByteArray.size_append, ByteArray.size_append]
    have h3 : (⟨(decL n.toNat).toArray⟩ : ByteArray).size = (decL n.toNat).length := rfl
    have h4 : (⟨#[47]⟩ : ByteArray).size = 1 := rfl
    omega
  · decide
theorem lnT_len (F : Int) (r : Rte) : (lnT F r).length ≤ 143 := by
  unfold lnT
  have h1 := ptxD_size F r.1.1 r.1.2
  have h2 := decL_len9 r.2.toNat
  have h3 : (ptxD F r.1.1 r.1.2).data.toList.length = (ptxD F r.1.1 r.1.2).size := by rw [Array.length_toList]; rfl
  simp only [List.length_append, List.length_singleton, h3]
  omega
theorem tx5_len (F : Int) : ∀ l, (tx5 F l).length ≤ 143 * l.length
  | [] => by simp [tx5]
  | r :: l => by
    have h1 := lnT_len F r
    have h2 := tx5_len F l
    show (lnT F r ++ tx5 F l).length ≤ _
    rw [List.length_append, List.length_cons]
    omega
theorem Tryz.infoU5 : (Tryz.prog.info? 5).map (fun i => (i.zero, i.size, i.bytes)) = some (some (.int .u8 0), 1, 1) := by kernel_rfl
theorem bytes_back5 (w : World) (g cap : Nat) (l : List UInt8) (hc : ∀ j, j < l.length → w.cell? ⟨g, j, none⟩ = some (.int .u8 ((l.getD j 0).toNat : Int))) :
    (convert 53 9 (.slice (some ⟨g, 0, none⟩) l.length cap)).run Tryz.prog w = .ok (.string ⟨l.toArray⟩) w := by
  refine run_convert_bytes_back (P := Tryz.prog) w 53 9 5 ⟨g, 0, none⟩ cap l Tryz.underlying53 Tryz.underlying5 Tryz.underlying9 ?_
  intro j hj
  have ea : (⟨g, 0, none⟩ : Addr).add j = ⟨g, j, none⟩ := by cases j <;> simp [Addr.add]
  rw [ea, hc j hj]
  simp [List.getD, hj]
theorem own_conv5 {W : World} {base : Nat} {v : Value} {l : List UInt8} (h : W.ownsRow base 5 1 v l.length (Lib.byteCells l)) : (convert 53 9 v).run Tryz.prog W = .ok (.string (bL9 l)) W := by
  rcases h.2 with ⟨rfl, h0⟩ | ⟨b, cp, cur, rfl, -⟩
  · have hl0 : l = [] := List.eq_nil_of_length_eq_zero h0
    subst hl0
    rw [run_convert_bytes_string W 53 9 5 _ _ _ Tryz.underlying53 Tryz.underlying5 Tryz.underlying9]
    simp [Conv.bytesToString]
    rfl
  · have hc : ∀ j, j < l.length → W.cell? ⟨b, j, none⟩ = some (.int .u8 ((l.getD j 0).toNat : Int)) := fun j hj => by
      have := h.cellAt j (by omega)
      rw [this]
      simp [Lib.byteCells, List.getD, hj]
    exact bytes_back5 W b cp l hc
def CX5 (w : World) (F : Int) (v : Value) (b o : Nat) (x : BitVec 128) (n h : Int) (base : Nat) (vb : Value) (B : List UInt8) (W : World) : Prop := C8 w F v b o x n h W ∧ W.ownsRow base 5 1 vb B.length (Lib.byteCells B)
theorem CX5.below {w W W' : World} {F : Int} {v : Value} {b o : Nat} {x : BitVec 128} {n h : Int} {base : Nat} {vb : Value} {B : List UInt8} (k : CX5 w F v b o x n h base vb B W) (hb : Below W.heap.size W W') : CX5 w F v b o x n h base vb B W' := ⟨k.1.below hb, own_below hb k.2⟩
theorem rts_hop {F : Int} {l : List Rte} (h : rtsE F l = 0) : fam F = true ∧ l.length ≤ 1048576 ∧ ∀ r ∈ l, 1 ≤ r.2 ∧ r.2 ≤ 65535 := by
  unfold rtsE at h
  by_cases hf : fam F = true
  · rw [if_pos hf] at h
    by_cases hl : 1048576 < l.length
    · rw [if_pos hl] at h; omega
    · rw [if_neg hl] at h
      refine ⟨hf, by omega, ?_⟩
      have key : ∀ l : List Rte, rtsG F l = 0 → ∀ r ∈ l, 1 ≤ r.2 ∧ r.2 ≤ 65535 := by
        intro l
        induction l with
        | nil => intro _ r hr; cases hr
        | cons a l ih =>
          intro h r hr
          have h' : (if rteE F a = 0 then rtsG F l else rteE F a) = 0 := h
          by_cases c : rteE F a = 0
          · rw [if_pos c] at h'
            rcases List.mem_cons.mp hr with q | q
            · rw [q]
              unfold rteE at c
              by_cases c1 : checkE F a.1.1 a.1.2 = 0
              · rw [if_pos c1] at c
                by_cases c2 : hopB a.2 = true
                · unfold hopB at c2
                  simpa using c2
                · rw [if_neg c2] at c; omega
              · rw [if_neg c1] at c; exact absurd c c1
            · exact ih h' r q
          · rw [if_neg c] at h'; exact absurd h' c
      exact key l h
  · rw [if_neg hf] at h; omega
end Go.Proofs.YtmeaikmmhgmgnaaGreat
