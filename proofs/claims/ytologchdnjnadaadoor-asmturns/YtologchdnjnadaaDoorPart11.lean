/-
  Part 11 of the proof: 4 texts, one behind the other.
-/
import Derived.Test.YtologchdnjnadaaDoorPart10
/-
  A reader of code's text: word.
-/
namespace Go.Proofs.YtologchdnjnadaaDoor
open Go.RowKit
set_option linter.unusedSimpArgs false
set_option linter.unusedVariables false
attribute [local go_sem] Oper.semAt_some

set_option maxRecDepth 20000
theorem ixB_any (s : ByteArray) (c : Int) (w : World) :
    Calls Tryd.prog 48 #[.string s, .int .u8 c] w fun e w' => e = .returned (.int .i64 (Lib.indexByte s.data.toList c.toNat.toUInt8)) ∧ w' = w := by
  have K := fun w => Any.stringslite_IndexByte Tryd.lays217 s c w
  go_enter Tryd.func48, Tryd.ntmps48
  go_wp2_with fail
  refine (K _).mono ?_
  rintro e w1 ⟨rfl, hw1⟩
  replace hw1 := hw1.symm
  subst hw1
  go_wp2
  go_ret
  exact ⟨rfl, rfl⟩
/-- What is known at the label of word. -/
structure WdS (w : World) (R : Nat) (s : ByteArray) (k : Nat) (r : Option Nat) (z j v : Nat) (W : World) : Prop where
  jz : j = k + 1 + z
  hi : z < 8
  en : j ≤ s.size
  bd : v < 16 ^ z
  e : hxP (8 - z) v (fr s j) = r
  r : RdA W R s j
  b : Bs R w W
theorem WdS.small {w : World} {R : Nat} {s : ByteArray} {k : Nat} {r : Option Nat} {z j v : Nat} {W : World} (h : WdS w R s k r z j v W) : v < 268435456 := by
  have h1 := h.bd
  have h2 : 16 ^ z ≤ 16 ^ 7 := Nat.pow_le_pow_right (by decide) (by have := h.hi; omega)
  have : 16 ^ 7 = 268435456 := by decide
  omega
/-- The byte read: a digit, or none. -/
def dgI (s : ByteArray) (j : Nat) : Option Nat := match fr s j with | [] => none | c :: _ => hxV c
theorem ix_dgI (s : ByteArray) (j : Nat) (hj : j ≤ s.size) : Lib.indexByte l16 (hrB s j).toNat.toUInt8 = match dgI s j with | some d => (d : Int) | none => -1 := by
  unfold hrB dgI
  by_cases h : j = s.size
  · rw [if_pos h, fr_nil h]; decide
  · rw [if_neg h]
    obtain ⟨c, e1, e2⟩ := fr_cons (s := s) (k := j) (by omega)
    rw [e1, e2]
    have : ((c.toNat : Int)).toNat.toUInt8 = c := by simp
    rw [this, ix16]
    rfl
theorem WdS.stop {w : World} {R : Nat} {s : ByteArray} {k : Nat} {r : Option Nat} {z j v : Nat} {W : World} (h : WdS w R s k r z j v W) (hd : dgI s j = none) : r = none := by
  have he := h.e
  have hz := h.hi
  obtain ⟨f, hf⟩ : ∃ f, 8 - z = f + 1 := ⟨7 - z, by omega⟩
  rw [hf] at he
  unfold dgI at hd
  rw [← he]
  cases hq : fr s j with
  | nil => rfl
  | cons c M => rw [hq] at hd; show (match hxV c with | some d => hxP f (v * 16 + d) M | none => none) = none; rw [show hxV c = none from hd]
theorem WdS.go {w : World} {R : Nat} {s : ByteArray} {k : Nat} {r : Option Nat} {z j v d : Nat} {W : World} (h : WdS w R s k r z j v W) (hd : dgI s j = some d) : j < s.size ∧ d < 16 ∧ hxP (8 - (z + 1)) (v * 16 + d) (fr s (j + 1)) = r ∧ v * 16 + d < 16 ^ (z + 1) := by
  have he := h.e
  have hz := h.hi
  have hlt : j < s.size := by
    apply Classical.byContradiction; intro q
    unfold dgI at hd; rw [fr_nil (by have := h.en; omega)] at hd; cases hd
  obtain ⟨c, e1, e2⟩ := fr_cons (s := s) (k := j) hlt
  have hc : hxV c = some d := by unfold dgI at hd; rw [e1] at hd; exact hd
  obtain ⟨f, hf⟩ : ∃ f, 8 - z = f + 1 := ⟨7 - z, by omega⟩
  have h16 := hx_lt hc
  rw [hf, e1] at he
  have he2 : hxP f (v * 16 + d) (fr s (j + 1)) = r := by
    have : hxP (f + 1) v (c :: fr s (j + 1)) = (match hxV c with | some d => hxP f (v * 16 + d) (fr s (j + 1)) | none => none) := rfl
    rw [this, hc] at he; exact he
  refine ⟨hlt, h16, by rw [show 8 - (z + 1) = f by omega]; exact he2, ?_⟩
  have := h.bd
  rw [Nat.pow_succ]
  omega
set_option maxHeartbeats 8000000 in
theorem rword_any (R : Nat) (s : ByteArray) (k : Nat) (w : World) (h : RdA w R s k) (hk : k ≤ s.size) (hs : s.size ≤ 1000000000) :
    Calls Tryd.prog 34 #[.pointer (some ⟨R, 0, none⟩)] w fun e w' => ∃ x a : Int, e = .returned (.tuple #[.int .u32 x, .bool (wdP (fr s k)).isSome]) ∧ RdA w' R s a ∧ Bs R w w' ∧ ∀ v, wdP (fr s k) = some v → x = (v : Int) ∧ v < 4294967296 ∧ a = ((k + 9 : Nat) : Int) ∧ k + 9 ≤ s.size := by
  have K1 := rtakes_any R s ⟨#[32]⟩ k w h hk hs (by decide)
  have e0 : ((⟨#[32]⟩ : ByteArray).data.toList).isPrefixOf (fr s k) = (bkL (fr s k)).isSome := bk_pre _
  rw [e0] at K1
  cases hb : bkL (fr s k) with
  | none =>
    have hn : wdP (fr s k) = none := by unfold wdP; rw [hb]; rfl
    rw [hb] at K1
    rw [hn]
    simp only [Option.isSome] at K1 ⊢
    clear e0 hb hn h
    go_enter Tryd.func34, Tryd.ntmps34
    go_wp2_with fail
    refine wp_scope_straight ?_
    go_wp2_with fail
    refine K1.mono ?_
    rintro e w1 ⟨rfl, h1, h2⟩
    have H1 := hid13 h1
    have H2 := hid13 h2
    clear K1 h1 h2
    go_wp2
    refine noGoto15 ?_
    exact bodyPost_ret (v := .tuple #[.int .u32 0, .bool false]) (by simp [results, Tryd.results34, go_sem]) rfl ⟨_, _, rfl, H1.out, H2.out, fun v q => by cases q⟩
  | some Y =>
    have hlt : k < s.size := by
      apply Classical.byContradiction; intro q
      rw [fr_nil (by omega)] at hb; cases hb
    obtain ⟨c, hc1, hc2⟩ := fr_cons hlt
    have hY : fr s (k + 1) = Y := by
      rw [hc1, bkL_cons] at hb
      by_cases q : c = 32
      · rw [if_pos q] at hb; injection hb
      · rw [if_neg q] at hb; cases hb
    have hn : wdP (fr s k) = hxP 8 0 Y := by unfold wdP; rw [hb]; rfl
    rw [hb] at K1
    simp only [Option.isSome, if_true] at K1
    obtain ⟨r, hr⟩ : ∃ r, r = wdP (fr s k) := ⟨_, rfl⟩
    rw [← hr]
    have HE : Hid (hxP 8 0 (fr s (k + 1)) = r) := hid13 (by rw [hY, hr, hn])
    have HK : Hid (k < s.size ∧ s.size ≤ 1000000000) := ⟨hlt, hs⟩
    clear e0 hb hn h hc1 hc2 hY c hr
    go_enter Tryd.func34, Tryd.ntmps34
    go_wp2_with fail
    refine scope_two15 0 (fun a' W => ∃ (z j v : Nat), a'.tmps.size = 32 ∧ a'.tmps.getD 0 undef = .pointer (some ⟨R, 0, none⟩) ∧ a'.tmps.getD 2 undef = .int .u32 0 ∧ a'.tmps.getD 3 undef = .bool false ∧ a'.tmps.getD 4 undef = .int .u32 (v : Int) ∧ a'.tmps.getD 5 undef = .int .i64 (z : Int) ∧ a'.defers = [] ∧ Hid (WdS w R s k r z j v W)) (fun _ W => s.size - atA R W) (by rfl) ?pre ?pass
    case pre =>
      go_wp2_with fail
      refine K1.mono ?_
      rintro e w1 ⟨rfl, h1, h2⟩
      have h1' : RdA w1 R s ((k : Int) + 1) := h1
      have HS : Hid (WdS w R s k r 0 (k + 1) 0 w1) := hid13 ⟨rfl, by omega, by have := HK.out; omega, by simp, HE.out, h1', h2⟩
      clear K1 h1 h2 h1'
      go_wp2
      exact ⟨0, k + 1, 0, by first | rfl | trivial, by first | rfl | trivial, by first | rfl | trivial, by first | rfl | trivial, by first | rfl | trivial, by first | rfl | trivial, by first | rfl | trivial, HS⟩
    case pass =>
      clear K1
      rintro ⟨tm9, df⟩ W ⟨z, j, v, hsz, h0, h2, h3, h4, h5, hdf, HJ⟩
      dsimp only at hsz h0 h2 h3 h4 h5 hdf
      obtain ⟨u, hu, htm⟩ := arr32a tm9 hsz
      rw [← hu] at h0 h2 h3 h4 h5
      rw [htm, hdf, h0, h2, h3, h4, h5, HJ.out.r.at]
      have KH := here_any R s j W HJ.out.r HJ.out.en HK.out.2
      have KI := fun w => ixB_any ⟨#[48, 49, 50, 51, 52, 53, 54, 55, 56, 57, 97, 98, 99, 100, 101, 102]⟩ (hrB s j) w
      have ei : Lib.indexByte (⟨#[48, 49, 50, 51, 52, 53, 54, 55, 56, 57, 97, 98, 99, 100, 101, 102]⟩ : ByteArray).data.toList (hrB s j).toNat.toUInt8 = match dgI s j with | some d => (d : Int) | none => -1 := ix_dgI s j HJ.out.en
      rw [ei] at KI
      clear hu htm hsz hdf h0 h2 h3 h4 h5 tm9 df hlt hs hk ei
      generalize hrB s j = c at *
      cases hd : dgI s j with
      | none =>
        rw [hd] at KI
        have HR : Hid (r = none) := hid13 (HJ.out.stop hd)
        clear hd
        go_wp2_with fail
        refine KH.mono ?_
        rintro e w1 ⟨rfl, hb1⟩
        have H1 : Hid (RdA w1 R s j ∧ Bs R w w1) := ⟨HJ.out.r.below hb1, HJ.out.b.trans (Bs.ofB hb1)⟩
        clear KH hb1
        go_wp2_with fail
        refine (KI _).mono ?_
        rintro e w2 ⟨rfl, hw2⟩
        replace hw2 := hw2.symm
        subst hw2
        clear KI
        go_wp2
        refine jump_ret15 ?_
        exact bodyPost_ret (v := .tuple #[.int .u32 0, .bool false]) (by simp [results, Tryd.results34, go_sem]) rfl ⟨_, _, by rw [HR.out]; rfl, H1.out.1, H1.out.2, fun v q => by rw [HR.out] at q; cases q⟩
      | some d =>
        rw [hd] at KI
        have HG := hid13 (HJ.out.go hd)
        have hsm := HJ.out.small
        have hd16 := HG.out.2.1
        have m1 : (v : Int) * 16 % 4294967296 = ((v * 16 : Nat) : Int) := by omega
        have m1' : IntKind.u32.wrap ((v : Int) * 16) = ((v * 16 : Nat) : Int) := by simp [IntKind.wrap, IntKind.bits, IntKind.signed]; omega
        have m2 : IntKind.u32.wrap (d : Int) = (d : Int) := by simp [IntKind.wrap, IntKind.bits, IntKind.signed]; omega
        have m3 : bits .or .u32 ((v : Int) * 16) (d : Int) = (v : Int) * 16 + (d : Int) := (orN32 (v * 16) d 4 (by omega) (by omega) (by omega) _ _ (by omega) rfl).trans (by omega)
        have m4 : IntKind.i64.wrap ((j : Int) + 1) = (j : Int) + 1 := by rw [IntKind.wrap_i64]; have := HJ.out.en; have := HK.out; omega
        have m5 : IntKind.i64.wrap ((z : Int) + 1) = (z : Int) + 1 := by rw [IntKind.wrap_i64]; have := HJ.out.hi; omega
        have m6 : ¬ (d : Int) < 0 := by omega
        clear hd hsm hd16
        go_wp2_with fail
        refine KH.mono ?_
        rintro e w1 ⟨rfl, hb1⟩
        have H1 : Hid (RdA w1 R s j ∧ Bs R w w1) := ⟨HJ.out.r.below hb1, HJ.out.b.trans (Bs.ofB hb1)⟩
        have r1 := H1.out.1.c1
        have f1 := H1.out.1.free 1
        clear KH hb1
        have H2 : Hid (RdA (w1.setCell ⟨R, 1, none⟩ (.int .i64 ((j : Int) + 1))) R s ((j + 1 : Nat) : Int) ∧ Bs R w (w1.setCell ⟨R, 1, none⟩ (.int .i64 ((j : Int) + 1)))) := hid13 ⟨show RdA _ R s ((j : Int) + 1) from H1.out.1.setA ((j : Int) + 1), H1.out.2.set 1 _⟩
        by_cases hz : z + 1 < 8
        · have hzi : (z : Int) + 1 < 8 := by omega
          have HW : Hid (WdS w R s k r (z + 1) (j + 1) (v * 16 + d) (w1.setCell ⟨R, 1, none⟩ (.int .i64 ((j : Int) + 1)))) := hid13 ⟨by have := HJ.out.jz; omega, hz, by have := HG.out.1; omega, HG.out.2.2.2, HG.out.2.2.1, H2.out.1, H2.out.2⟩
          clear H2 H1 hz
          go_wp2_with fail
          refine (KI _).mono ?_
          rintro e w2 ⟨rfl, hw2⟩
          replace hw2 := hw2.symm
          subst hw2
          clear KI
          go_wp2
          refine wp_goto ?_
          refine And.intro rfl (And.intro ⟨z + 1, j + 1, v * 16 + d, by first | rfl | trivial, by first | rfl | trivial, by first | rfl | trivial, by first | rfl | trivial, by first | rfl | trivial, by first | rfl | trivial, by first | rfl | trivial, HW⟩ ?_)
          rw [HW.out.r.at]
          have := HG.out.1
          omega
        · have hzi : ¬ (z : Int) + 1 < 8 := by omega
          have HR : Hid (r = some (v * 16 + d) ∧ j + 1 = k + 9 ∧ v * 16 + d < 4294967296) := hid13 (by
            have hz7 : z = 7 := by have := HJ.out.hi; omega
            have := HG.out
            subst hz7
            refine ⟨by rw [← this.2.2.1]; rfl, by have := HJ.out.jz; omega, ?_⟩
            have h8 := this.2.2.2
            have : 16 ^ (7 + 1) = 4294967296 := by decide
            omega)
          clear H1 hz
          go_wp2_with fail
          refine (KI _).mono ?_
          rintro e w2 ⟨rfl, hw2⟩
          replace hw2 := hw2.symm
          subst hw2
          clear KI
          go_wp2
          refine jump_ret15 ?_
          exact bodyPost_ret (v := .tuple #[.int .u32 ((v * 16 + d : Nat) : Int), .bool true]) (by simp [results, Tryd.results34, go_sem]) rfl ⟨_, _, by rw [HR.out.1]; rfl, H2.out.1, H2.out.2, fun v' q => by rw [HR.out.1] at q; injection q with q; subst q; exact ⟨rfl, HR.out.2.2, by rw [HR.out.2.1], by rw [← HR.out.2.1]; have := HG.out.1; omega⟩⟩
end Go.Proofs.YtologchdnjnadaaDoor
/-
  Plain: what a line of code's text says, as the program reads it.
-/
namespace Go.Proofs.YtologchdnjnadaaDoor
open Go.RowKit
set_option linter.unusedSimpArgs false
set_option linter.unusedVariables false

/-- The words up to the line's end. -/
def mwP : Nat → List UInt8 → Option (List (BitVec 32))
  | 0, _ => none
  | f + 1, L => if enP L = true then some [] else match wdP L with | some v => (mwP f (L.drop 9)).map (BitVec.ofNat 32 v :: ·) | none => none
abbrev LnR := Int × List Nat × Nat
def bwR (L : List UInt8) (c : Nat) : LnR := match wdP L with | some v => if enP (L.drop 9) = true then (0, by4 v, c + 9) else (5, [], 0) | none => (5, [], 0)
def mwR (n : Int) (M : List (BitVec 32)) (f : Nat) (L : List UInt8) (c : Nat) : LnR := match mwP f L with | some ms => (chkE 2 n (M ++ ms), enL [] 2 n (M ++ ms), c + 9 * ms.length) | none => (5, [], 0)
def inR (o n : Int) (M : List (BitVec 32)) (c : Nat) : LnR := (chkE o n M, enL [] o n M, c)
def nuR (op : Nat) (L : List UInt8) (c : Nat) : LnR :=
  match nuP L with
  | none => (5, [], 0)
  | some (n, z) => if op = 2 then mwR n [] ((L.drop z).length + 1) (L.drop z) (c + z) else if enP (L.drop z) = true then inR op n [] (c + z) else (5, [], 0)
/-- A line: the error, its bytes, how many bytes of the text it has. -/
def lnR (L : List UInt8) : LnR :=
  match nmP L with
  | none => (5, [], 0)
  | some op => if op = 0 then bwR (L.drop 4) 4 else nuR op (L.drop (nmL op).length) (nmL op).length
theorem mwR_end {n : Int} {M : List (BitVec 32)} {f : Nat} {L : List UInt8} {c : Nat} (h : enP L = true) : mwR n M (f + 1) L c = inR 2 n M c := by
  unfold mwR mwP; rw [if_pos h]; simp [inR]
theorem mwR_go {n : Int} {M : List (BitVec 32)} {f : Nat} {L : List UInt8} {c v : Nat} (h : enP L = false) (hv : wdP L = some v) : mwR n M (f + 1) L c = mwR n (M ++ [BitVec.ofNat 32 v]) f (L.drop 9) (c + 9) := by
  unfold mwR
  rw [show mwP (f + 1) L = (if enP L = true then some [] else match wdP L with | some v => (mwP f (L.drop 9)).map (BitVec.ofNat 32 v :: ·) | none => none) from rfl, if_neg (by rw [h]; decide), hv]
  cases mwP f (L.drop 9) with
  | none => rfl
  | some ms =>
    show (chkE 2 n (M ++ (BitVec.ofNat 32 v :: ms)), enL [] 2 n (M ++ (BitVec.ofNat 32 v :: ms)), c + 9 * (ms.length + 1)) = (chkE 2 n (M ++ [BitVec.ofNat 32 v] ++ ms), enL [] 2 n (M ++ [BitVec.ofNat 32 v] ++ ms), c + 9 + 9 * ms.length)
    rw [show M ++ [BitVec.ofNat 32 v] ++ ms = M ++ (BitVec.ofNat 32 v :: ms) by simp, show c + 9 * (ms.length + 1) = c + 9 + 9 * ms.length by omega]
theorem mwR_stop {n : Int} {M : List (BitVec 32)} {f : Nat} {L : List UInt8} {c : Nat} (h : enP L = false) (hv : wdP L = none) : mwR n M (f + 1) L c = (5, [], 0) := by
  unfold mwR
  rw [show mwP (f + 1) L = (if enP L = true then some [] else match wdP L with | some v => (mwP f (L.drop 9)).map (BitVec.ofNat 32 v :: ·) | none => none) from rfl, if_neg (by rw [h]; decide), hv]
theorem nmF_lt {L : List UInt8} : ∀ {f j o : Nat}, nmF L f j = some o → o < j + f ∧ (nmL o).isPrefixOf L = true
  | 0, _, _, h => by cases h
  | f + 1, j, o, h => by
    unfold nmF at h
    split at h
    · injection h with h; subst h; exact ⟨by omega, by assumption⟩
    · have := nmF_lt h; exact ⟨by omega, this.2⟩
theorem nmP_lt {L : List UInt8} {o : Nat} (h : nmP L = some o) : o < 5 ∧ (nmL o).isPrefixOf L = true := by
  have := nmF_lt h; exact ⟨by omega, this.2⟩
theorem nm_len {L : List UInt8} {o : Nat} (h : nmP L = some o) : (nmL o).length ≤ L.length := by
  have h2 := (nmP_lt h).2
  exact (List.isPrefixOf_iff_prefix.1 h2).length_le
theorem nu_len {L : List UInt8} {n c : Nat} (h : nuP L = some (n, c)) : c ≤ L.length := by
  unfold nuP bkL at h
  cases L with
  | nil => cases h
  | cons b Y =>
    by_cases q : b = 32
    · simp only [if_pos q, Option.bind] at h
      split at h
      · injection h with h; injection h with h1 h2
        have := (dg_len 9 0 Y).2
        simp only [List.length_cons]; omega
      · cases h
    · simp only [if_neg q, Option.bind] at h; cases h
theorem dg_bd : ∀ (f n : Nat) (L : List UInt8), (dgP f n L).1 < (n + 1) * 10 ^ f
  | 0, n, _ => by simp [dgP]
  | f + 1, n, [] => by
    show n < _
    have : 1 ≤ 10 ^ (f + 1) := Nat.one_le_pow _ _ (by decide)
    calc n < (n + 1) * 1 := by omega
      _ ≤ _ := Nat.mul_le_mul_left _ this
  | f + 1, n, c :: L => by
    unfold dgP
    split
    · rename_i h
      have h1 := dg_bd f (10 * n + (c.toNat - 48)) L
      unfold isD at h
      simp only [Bool.and_eq_true, decide_eq_true_eq] at h
      have h2 : (10 * n + (c.toNat - 48) + 1) * 10 ^ f ≤ (10 * n + 10) * 10 ^ f := Nat.mul_le_mul_right _ (by omega)
      rw [Nat.pow_succ, show (n + 1) * (10 ^ f * 10) = (10 * n + 10) * 10 ^ f by rw [Nat.mul_comm (10 ^ f) 10, ← Nat.mul_assoc]; congr 1; omega]
      simp only; omega
    · have : 1 ≤ 10 ^ (f + 1) := Nat.one_le_pow _ _ (by decide)
      show n < _
      calc n < (n + 1) * 1 := by omega
        _ ≤ _ := Nat.mul_le_mul_left _ this
theorem nu_bd {L : List UInt8} {n c : Nat} (h : nuP L = some (n, c)) : n < 1000000000 := by
  unfold nuP bkL at h
  cases L with
  | nil => cases h
  | cons b Y =>
    by_cases q : b = 32
    · simp only [if_pos q, Option.bind] at h
      split at h
      · injection h with h; injection h with h1 h2
        have := dg_bd 9 0 Y
        have e : (0 + 1) * 10 ^ 9 = 1000000000 := by decide
        omega
      · cases h
    · simp only [if_neg q, Option.bind] at h; cases h
end Go.Proofs.YtologchdnjnadaaDoor
/-
  Plain: a line of code's text by its pieces, as the document has it; the program reads just that.
-/
namespace Go.Proofs.YtologchdnjnadaaDoor
open Go.RowKit
set_option linter.unusedSimpArgs false
set_option linter.unusedVariables false

/-- The pieces between blanks. -/
def spl : List UInt8 → List (List UInt8)
  | [] => [[]]
  | c :: t => if c = 32 then [] :: spl t else match spl t with | h :: r => (c :: h) :: r | [] => [[c]]
def numD (y : List UInt8) : Option Nat := if y.length < 1 ∨ 9 < y.length ∨ (1 < y.length ∧ y.head? = some 48) then none else if (dgP 9 0 y).2 = y.length then some (dgP 9 0 y).1 else none
def wordD (y : List UInt8) : Option Nat := if y.length = 8 then hxP 8 0 y else none
def wordsD : List (List UInt8) → Option (List (BitVec 32))
  | [] => some []
  | y :: r => match wordD y with | some v => (wordsD r).map (BitVec.ofNat 32 v :: ·) | none => none
def opD (a : List UInt8) : Nat := if a = nmL 4 then 4 else if a = nmL 3 then 3 else if a = nmL 2 then 2 else if a = nmL 1 then 1 else 0
def lineD (X : List UInt8) : Int × List Nat :=
  match spl X with
  | a :: b :: r =>
    if a = nmL 0 then (match wordD b with | some v => if r = [] then (0, by4 v) else (5, []) | none => (5, []))
    else if opD a = 0 then (5, []) else match numD b with
      | none => (5, [])
      | some n => if opD a ≠ 2 ∧ r ≠ [] then (5, []) else match wordsD r with | none => (5, []) | some ms => (chkE (opD a) n ms, enL [] (opD a) n ms)
  | _ => (5, [])
theorem spl_app : ∀ (a : List UInt8) (Y : List UInt8), (∀ c ∈ a, c ≠ 32) → spl (a ++ 32 :: Y) = a :: spl Y
  | [], Y, _ => rfl
  | c :: a, Y, h => by
    have ih := spl_app a Y (fun x hx => h x (List.mem_cons_of_mem _ hx))
    show (if c = 32 then [] :: spl (a ++ 32 :: Y) else match spl (a ++ 32 :: Y) with | h :: r => (c :: h) :: r | [] => [[c]]) = _
    rw [if_neg (h c List.mem_cons_self), ih]
theorem spl_own : ∀ (a : List UInt8), (∀ c ∈ a, c ≠ 32) → spl a = [a]
  | [], _ => rfl
  | c :: a, h => by
    have ih := spl_own a (fun x hx => h x (List.mem_cons_of_mem _ hx))
    show (if c = 32 then [] :: spl a else match spl a with | h :: r => (c :: h) :: r | [] => [[c]]) = _
    rw [if_neg (h c List.mem_cons_self), ih]
theorem span32 : ∀ (X : List UInt8), ∃ a, (∀ c ∈ a, c ≠ 32) ∧ (X = a ∨ ∃ Y, X = a ++ 32 :: Y)
  | [] => ⟨[], by simp, .inl rfl⟩
  | c :: X => by
    by_cases q : c = 32
    · exact ⟨[], by simp, .inr ⟨X, by rw [q]; rfl⟩⟩
    · obtain ⟨a, h1, h2⟩ := span32 X
      refine ⟨c :: a, fun x hx => ?_, ?_⟩
      · rcases List.mem_cons.1 hx with rfl | hx
        · exact q
        · exact h1 x hx
      · rcases h2 with rfl | ⟨Y, rfl⟩
        · exact .inl rfl
        · exact .inr ⟨Y, rfl⟩
theorem spl_ne (X : List UInt8) : spl X ≠ [] := by
  obtain ⟨a, h1, rfl | ⟨Y, rfl⟩⟩ := span32 X
  · rw [spl_own _ h1]; simp
  · rw [spl_app _ _ h1]; simp
/-- What stands behind a piece: neither a digit nor a letter of a word. -/
def Stp (T : List UInt8) : Prop := T = [] ∨ ∃ c t, T = c :: t ∧ (c = 10 ∨ c = 32)
theorem Stp.en {Z : List UInt8} (h : Z = [] ∨ ∃ Z', Z = 10 :: Z') : Stp Z := by
  rcases h with h | ⟨Z', h⟩
  · exact .inl h
  · exact .inr ⟨10, Z', h, .inl rfl⟩
theorem stp_bl (Y : List UInt8) : Stp (32 :: Y) := .inr ⟨32, Y, rfl, .inr rfl⟩
theorem hx_stop {T : List UInt8} (hT : Stp T) : ∀ (f v : Nat) (b : List UInt8), hxP f v (b ++ T) = hxP f v b
  | 0, _, _ => rfl
  | f + 1, v, [] => by
    rcases hT with rfl | ⟨c, t, rfl, rfl | rfl⟩ <;> rfl
  | f + 1, v, c :: b => by
    show (match hxV c with | some d => hxP f (v * 16 + d) (b ++ T) | none => none) = (match hxV c with | some d => hxP f (v * 16 + d) b | none => none)
    cases hxV c with
    | none => rfl
    | some d => exact hx_stop hT f _ b
theorem dg_stp {T : List UInt8} (hT : Stp T) : ∀ (f n : Nat) (b : List UInt8), dgP f n (b ++ T) = dgP f n b
  | 0, _, _ => rfl
  | f + 1, n, [] => by
    rcases hT with rfl | ⟨c, t, rfl, rfl | rfl⟩ <;> rfl
  | f + 1, n, c :: b => by
    show (if isD c = true then ((dgP f (10 * n + (c.toNat - 48)) (b ++ T)).1, (dgP f (10 * n + (c.toNat - 48)) (b ++ T)).2 + 1) else (n, 0)) = (if isD c = true then ((dgP f (10 * n + (c.toNat - 48)) b).1, (dgP f (10 * n + (c.toNat - 48)) b).2 + 1) else (n, 0))
    rw [dg_stp hT f _ b]
theorem hx_len : ∀ {f v : Nat} {b : List UInt8} {r : Nat}, hxP f v b = some r → f ≤ b.length
  | 0, _, _, _, _ => Nat.zero_le _
  | f + 1, v, [], r, h => by cases h
  | f + 1, v, c :: b, r, h => by
    have h' : (match hxV c with | some d => hxP f (v * 16 + d) b | none => none) = some r := h
    cases hc : hxV c with
    | none => rw [hc] at h'; cases h'
    | some d => rw [hc] at h'; have := hx_len h'; simp only [List.length_cons]; omega
theorem bk_no {T : List UInt8} (h : T = [] ∨ ∃ c t, T = c :: t ∧ c ≠ 32) : bkL T = none := by
  rcases h with rfl | ⟨c, t, rfl, hc⟩
  · rfl
  · show (if c = 32 then some t else none) = none; rw [if_neg hc]
theorem en_no {T : List UInt8} {c : UInt8} {t : List UInt8} (h : T = c :: t) (hc : c ≠ 10) : enP T = false := by
  subst h; show (c == 10) = false; simpa using hc
theorem en_yes {Z : List UInt8} (h : Z = [] ∨ ∃ Z', Z = 10 :: Z') : enP Z = true := by
  rcases h with rfl | ⟨Z', rfl⟩ <;> rfl
theorem drop_mid (b T : List UInt8) (k : Nat) (h : k < b.length) : ∃ c t, (b ++ T).drop k = c :: t ∧ c ∈ b := by
  refine ⟨b[k], (b ++ T).drop (k + 1), ?_, List.getElem_mem h⟩
  rw [List.drop_eq_getElem_cons (by rw [List.length_append]; omega)]
  congr 1
  exact List.getElem_append_left h
theorem drop_end (b T : List UInt8) : (b ++ T).drop b.length = T := by simp
/-- The words behind a number. -/
theorem words_eq {Z : List UInt8} (hZ : Z = [] ∨ ∃ Z', Z = 10 :: Z') : ∀ (d : Nat) (Y : List UInt8), Y.length ≤ d → (∀ c ∈ Y, c ≠ 10) → ∀ f, Y.length + 1 < f → mwP f (32 :: (Y ++ Z)) = wordsD (spl Y) ∧ ∀ ms, wordsD (spl Y) = some ms → 9 * ms.length = Y.length + 1
  | d, Y, hd, hY, f, hf => by
    obtain ⟨f, rfl⟩ : ∃ g, f = g + 1 := ⟨f - 1, by omega⟩
    have e0 : mwP (f + 1) (32 :: (Y ++ Z)) = (match hxP 8 0 (Y ++ Z) with | some v => (mwP f ((32 :: (Y ++ Z)).drop 9)).map (BitVec.ofNat 32 v :: ·) | none => none) := rfl
    have e9 : (32 :: (Y ++ Z)).drop 9 = (Y ++ Z).drop 8 := rfl
    rw [e0, e9]
    obtain ⟨b, hb, hX⟩ := span32 Y
    have hb10 : ∀ c ∈ b, c ≠ 10 := fun c hc => hY c (by rcases hX with rfl | ⟨Y', rfl⟩ <;> simp [hc])
    rcases hX with rfl | ⟨Y', rfl⟩
    · rw [spl_own _ hb, hx_stop (Stp.en hZ)]
      show _ = (match wordD Y with | some v => (wordsD []).map (BitVec.ofNat 32 v :: ·) | none => none) ∧ _
      unfold wordD
      cases hh : hxP 8 0 Y with
      | none => 
        refine ⟨by split <;> simp_all, fun ms h => ?_⟩
        exfalso
        have : wordsD [Y] = none := by show (match wordD Y with | some v => (wordsD []).map (BitVec.ofNat 32 v :: ·) | none => none) = none; unfold wordD; split <;> simp_all
        rw [this] at h; cases h
      | some v =>
        have hl := hx_len hh
        by_cases h8 : Y.length = 8
        · rw [if_pos h8]
          have : (Y ++ Z).drop 8 = Z := by rw [← h8]; exact drop_end _ _
          rw [this]
          obtain ⟨f, rfl⟩ : ∃ g, f = g + 1 := ⟨f - 1, by omega⟩
          have e1 : mwP (f + 1) Z = some [] := by show (if enP Z = true then _ else _) = _; rw [if_pos (en_yes hZ)]
          rw [e1]
          refine ⟨rfl, fun ms h => ?_⟩
          have : wordsD [Y] = some [BitVec.ofNat 32 v] := by show (match wordD Y with | some v => (wordsD []).map (BitVec.ofNat 32 v :: ·) | none => none) = _; unfold wordD; rw [if_pos h8, hh]; rfl
          rw [this] at h; injection h with h; subst h; simp; omega
        · rw [if_neg h8]
          obtain ⟨c, t, h1, h2⟩ := drop_mid Y Z 8 (by omega)
          obtain ⟨f, rfl⟩ : ∃ g, f = g + 1 := ⟨f - 1, by omega⟩
          have e1 : mwP (f + 1) ((Y ++ Z).drop 8) = none := by
            show (if enP _ = true then _ else match wdP _ with | some v => _ | none => none) = _
            rw [if_neg (by rw [en_no h1 (hb10 c h2)]; decide)]
            have : wdP ((Y ++ Z).drop 8) = none := by unfold wdP; rw [bk_no (.inr ⟨c, t, h1, hb c h2⟩)]; rfl
            rw [this]
          rw [e1]
          refine ⟨rfl, fun ms h => ?_⟩
          have : wordsD [Y] = none := by show (match wordD Y with | some v => (wordsD []).map (BitVec.ofNat 32 v :: ·) | none => none) = _; unfold wordD; rw [if_neg h8]
          rw [this] at h; cases h
    · rw [spl_app _ _ hb, List.append_assoc, List.cons_append, hx_stop (stp_bl _)]
      have hY' : ∀ c ∈ Y', c ≠ 10 := fun c hc => hY c (by simp [hc])
      simp only [List.length_append, List.length_cons] at hd hf
      have hW : wordsD (b :: spl Y') = (match wordD b with | some v => (wordsD (spl Y')).map (BitVec.ofNat 32 v :: ·) | none => none) := rfl
      rw [hW]
      unfold wordD
      cases hh : hxP 8 0 b with
      | none => refine ⟨by split <;> simp_all, fun ms h => ?_⟩; exfalso; revert h; split <;> simp_all
      | some v =>
        have hl := hx_len hh
        by_cases h8 : b.length = 8
        · rw [if_pos h8]
          have e2 : (b ++ 32 :: (Y' ++ Z)).drop 8 = 32 :: (Y' ++ Z) := by rw [← h8]; exact drop_end _ _
          rw [e2]
          obtain ⟨i1, i2⟩ := words_eq hZ (d - 1) Y' (by omega) hY' f (by omega)
          rw [i1]
          refine ⟨rfl, fun ms h => ?_⟩
          show 9 * ms.length = _
          cases hq : wordsD (spl Y') with
          | none => rw [hq] at h; cases h
          | some m2 =>
            have := i2 m2 hq
            rw [hq] at h
            injection h with h
            subst h
            simp only [List.length_append, List.length_cons]
            omega
        · rw [if_neg h8]
          obtain ⟨c, t, h1, h2⟩ := drop_mid b (32 :: (Y' ++ Z)) 8 (by omega)
          obtain ⟨f, rfl⟩ : ∃ g, f = g + 1 := ⟨f - 1, by omega⟩
          have e1 : mwP (f + 1) ((b ++ 32 :: (Y' ++ Z)).drop 8) = none := by
            show (if enP _ = true then _ else match wdP _ with | some v => _ | none => none) = _
            rw [if_neg (by rw [en_no h1 (hb10 c h2)]; decide)]
            have : wdP ((b ++ 32 :: (Y' ++ Z)).drop 8) = none := by unfold wdP; rw [bk_no (.inr ⟨c, t, h1, hb c h2⟩)]; rfl
            rw [this]
          rw [e1]
          exact ⟨rfl, fun ms h => by cases h⟩
termination_by d Y => Y.length
decreasing_by simp_all; try omega
end Go.Proofs.YtologchdnjnadaaDoor
/-
  The document's word and number.
-/
namespace Go.Proofs.YtologchdnjnadaaDoor
open Go.RowKit
set_option linter.unusedSimpArgs false
set_option linter.unusedVariables false

theorem hxP_go {f v d : Nat} {c : UInt8} {L : List UInt8} (h : hxV c = some d) : hxP (f + 1) v (c :: L) = hxP f (v * 16 + d) L := by
  show (match hxV c with | some d => hxP f (v * 16 + d) L | none => none) = _
  rw [h]
theorem hxP_no {f v : Nat} {c : UInt8} {L : List UInt8} (h : hxV c = none) : hxP (f + 1) v (c :: L) = none := by
  show (match hxV c with | some d => hxP f (v * 16 + d) L | none => none) = _
  rw [h]
def woV (o : Option Nat) : Nat := o.getD 0
set_option maxRecDepth 20000 in
set_option maxHeartbeats 4000000 in
theorem rdword_any (s : ByteArray) (w : World) :
    Calls Tryd.prog 38 #[.string s] w fun e w' => e = .returned (.tuple #[.int .u32 (woV (wordD (fr s 0)) : Int), .bool (wordD (fr s 0)).isSome]) ∧ w' = w := by
  have hln : (fr s 0).length = s.size := by rw [fr_len]; omega
  by_cases h8 : s.size = 8
  · have hW : wordD (fr s 0) = hxP 8 0 (fr s 0) := by unfold wordD; rw [hln, if_pos h8]
    obtain ⟨r, hr⟩ : ∃ r, r = wordD (fr s 0) := ⟨_, rfl⟩
    rw [← hr]
    have HE : Hid (hxP 8 0 (fr s 0) = r) := hid13 (by rw [hr, hW])
    have h8i : (s.size : Int) = 8 := by omega
    have H8 := hid13 h8
    clear hln hW hr h8
    go_enter Tryd.func38, Tryd.ntmps38
    go_wp2
    go_loopg [4, 5, 13, 32] 8 (fun g x4 x5 x13 x32 wr => ∃ (j v : Nat), j + g = 8 ∧ x4 = .int .u32 (v : Int) ∧ x5 = .int .i64 (j : Int) ∧ Hid (hxP g v (fr s j) = r ∧ v < 16 ^ j) ∧ wr = w)
    case atStart => exact ⟨0, 0, by omega, rfl, rfl, hid13 ⟨HE.out, by simp⟩, rfl⟩
    case round =>
      obtain ⟨j, v, hj, rfl, rfl, HS, rfl⟩ := hrel
      by_cases hlt : j < 8
      · have hli : (j : Int) < 8 := by omega
        have hls : j < s.size := by have := H8.out; omega
        have hb := byteAt_in s j hls
        obtain ⟨c, hc1, hc2⟩ := fr_cons (s := s) (k := j) hls
        rw [hc2] at hb
        obtain ⟨g, rfl⟩ : ∃ g, gk = g + 1 := ⟨gk - 1, by omega⟩
        have hE := HS.out.1
        rw [hc1] at hE
        have hvb : v < 268435456 := by
          have h1 := HS.out.2
          have h2 : 16 ^ j ≤ 16 ^ 7 := Nat.pow_le_pow_right (by decide) (by omega)
          have : 16 ^ 7 = 268435456 := by decide
          omega
        have hcb := c.toNat_lt
        have HJ : Hid (j + (g + 1) = 8 ∧ v < 16 ^ j) := ⟨hj, HS.out.2⟩
        have HE' := hid13 hE
        have mj : IntKind.i64.wrap ((j : Int) + 1) = (j : Int) + 1 := by rw [IntKind.wrap_i64]; omega
        have m1 : (v : Int) * 16 % 4294967296 = (v : Int) * 16 := by omega
        have m1' : IntKind.u32.wrap ((v : Int) * 16) = (v : Int) * 16 := by simp [IntKind.wrap, IntKind.bits, IntKind.signed]; omega
        obtain ⟨cc, hcc⟩ : ∃ cc : Int, cc = (c.toNat : Int) := ⟨_, rfl⟩
        rw [← hcc] at hb
        by_cases hd1 : 48 ≤ c.toNat ∧ c.toNat ≤ 57
        · obtain ⟨d, hd⟩ : ∃ d : Nat, cc - 48 = (d : Int) := ⟨(cc - 48).toNat, by omega⟩
          have hx : hxV c = some d := by unfold hxV; rw [if_pos hd1]; congr 1; omega
          have HE2 : Hid (hxP g (v * 16 + d) (fr s (j + 1)) = r) := hid13 (by rw [← HE'.out, hxP_go hx])
          have hdb : d < 16 := by omega
          have m5 : IntKind.u32.wrap (d : Int) = (d : Int) := by simp [IntKind.wrap, IntKind.bits, IntKind.signed]; omega
          have m6 : bits .or .u32 ((v : Int) * 16) (d : Int) = (v : Int) * 16 + (d : Int) := (orN32 (v * 16) d 4 (by omega) (by omega) (by omega) _ _ (by omega) rfl).trans (by omega)
          have HP : Hid (v * 16 + d < 16 ^ (j + 1)) := hid13 (by have := HJ.out.2; rw [Nat.pow_succ]; omega)
          have m2 : (48 : Int) ≤ cc := by omega
          have m3 : cc ≤ 57 := by omega
          have m4 : IntKind.u8.wrap (cc - 48) = (d : Int) := by rw [hd]; simp [IntKind.wrap, IntKind.bits, IntKind.signed]; omega
          clear hd1 hx hc1 hc2 hE HS HE' hvb hcb hj hdb hcc
          go_wp2
          go_roundg g
          case measure => omega
          case rel => exact ⟨j + 1, v * 16 + d, by have := HJ.out; omega, rfl, rfl, hid13 ⟨HE2.out, HP.out⟩, rfl⟩
        by_cases hd2 : 97 ≤ c.toNat ∧ c.toNat ≤ 102
        · obtain ⟨d, hd⟩ : ∃ d : Nat, cc - 87 = (d : Int) := ⟨(cc - 87).toNat, by omega⟩
          have hx : hxV c = some d := by unfold hxV; rw [if_neg hd1, if_pos hd2]; congr 1; omega
          have HE2 : Hid (hxP g (v * 16 + d) (fr s (j + 1)) = r) := hid13 (by rw [← HE'.out, hxP_go hx])
          have hdb : d < 16 := by omega
          have m5 : IntKind.u32.wrap (d : Int) = (d : Int) := by simp [IntKind.wrap, IntKind.bits, IntKind.signed]; omega
          have m6 : bits .or .u32 ((v : Int) * 16) (d : Int) = (v : Int) * 16 + (d : Int) := (orN32 (v * 16) d 4 (by omega) (by omega) (by omega) _ _ (by omega) rfl).trans (by omega)
          have HP : Hid (v * 16 + d < 16 ^ (j + 1)) := hid13 (by have := HJ.out.2; rw [Nat.pow_succ]; omega)
          have m2 : (48 : Int) ≤ cc := by omega
          have m3 : ¬ cc ≤ 57 := by omega
          have m3a : (97 : Int) ≤ cc := by omega
          have m3b : cc ≤ 102 := by omega
          obtain ⟨d9, hd9⟩ : ∃ d9 : Nat, cc - 97 = (d9 : Int) := ⟨_, (Int.toNat_of_nonneg (by omega)).symm⟩
          have m4 : IntKind.u8.wrap (cc - 97) = ((d9 : Nat) : Int) := by rw [hd9]; simp [IntKind.wrap, IntKind.bits, IntKind.signed]; omega
          have m4b : IntKind.u8.wrap (((d9 : Nat) : Int) + 10) = (d : Int) := by simp [IntKind.wrap, IntKind.bits, IntKind.signed]; omega
          have m4c : ((d9 : Nat) : Int) + 10 = (d : Int) := by omega
          clear hd
          clear hd1 hx hc1 hc2 hE HS HE' hvb hcb hj hdb hcc hd2
          go_wp2
          go_roundg g
          case measure => omega
          case rel => exact ⟨j + 1, v * 16 + d, by have := HJ.out; omega, rfl, rfl, hid13 ⟨HE2.out, HP.out⟩, rfl⟩
        · have hx : hxV c = none := by unfold hxV; rw [if_neg hd1, if_neg hd2]
          have HR : Hid (r = none) := hid13 (by rw [← HE'.out, hxP_no hx])
          by_cases n1 : (48 : Int) ≤ cc
          · have n2 : ¬ cc ≤ 57 := by omega
            by_cases n3 : (97 : Int) ≤ cc
            · have n4 : ¬ cc ≤ 102 := by omega
              clear hd1 hd2 hx hc1 hc2 hE HS HE' hvb hcb hj hcc
              go_wp2
              exact bodyPost_ret (v := .tuple #[.int .u32 0, .bool false]) (by simp [results, Tryd.results38, go_sem]) rfl ⟨by rw [HR.out]; rfl, rfl⟩
            · clear hd1 hd2 hx hc1 hc2 hE HS HE' hvb hcb hj hcc
              go_wp2
              exact bodyPost_ret (v := .tuple #[.int .u32 0, .bool false]) (by simp [results, Tryd.results38, go_sem]) rfl ⟨by rw [HR.out]; rfl, rfl⟩
          · have n3 : ¬ (97 : Int) ≤ cc := by omega
            clear hd1 hd2 hx hc1 hc2 hE HS HE' hvb hcb hj hcc
            go_wp2
            exact bodyPost_ret (v := .tuple #[.int .u32 0, .bool false]) (by simp [results, Tryd.results38, go_sem]) rfl ⟨by rw [HR.out]; rfl, rfl⟩
      · have hli : ¬ (j : Int) < 8 := by omega
        obtain rfl : gk = 0 := by omega
        have HR : Hid (r = some v) := hid13 HS.out.1.symm
        clear hj hlt
        go_wp2
        exact bodyPost_ret (v := .tuple #[.int .u32 (v : Int), .bool true]) (by simp [results, Tryd.results38, go_sem]) rfl ⟨by rw [HR.out]; rfl, rfl⟩
  · have hW : wordD (fr s 0) = none := by unfold wordD; rw [hln, if_neg h8]
    rw [hW]
    have h8i : ((s.size : Int) == 8) = false := by rw [beq_eq_false_iff_ne]; omega
    clear hln hW h8
    go_enter Tryd.func38, Tryd.ntmps38
    go_wp2
    exact bodyPost_ret (v := .tuple #[.int .u32 0, .bool false]) (by simp [results, Tryd.results38, go_sem]) rfl ⟨rfl, rfl⟩
end Go.Proofs.YtologchdnjnadaaDoor
