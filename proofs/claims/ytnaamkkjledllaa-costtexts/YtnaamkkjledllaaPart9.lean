/-
  Part 9 of the proof: 2 texts, one behind the other.
-/
import Derived.Test.YtnaamkkjledllaaPart8
import Derived.Test.YtnaamkkjledllaaPart6
/-
  What the call of the document's Text of a number of 192 bits does.
-/
namespace Go.Proofs.Ytnaamkkjledllaa
open Go.RowKit
set_option linter.unusedSimpArgs false
set_option linter.unusedVariables false

theorem one_conv9 (w : World) (d : Nat) (h : d < 256) :
    (convert 57 9 (.slice (some ⟨w.heap.size, 0, none⟩) 1 1)).run Try.prog (w.alloc (.cells #[.int .u8 (d : Int)] 5)) = .ok (.string ⟨#[UInt8.ofNat d]⟩) (w.alloc (.cells #[.int .u8 (d : Int)] 5)) := by
  have := run_convert_bytes_back (P := Try.prog) (w.alloc (.cells #[.int .u8 (d : Int)] 5)) 57 9 5 ⟨w.heap.size, 0, none⟩ 1 [UInt8.ofNat d] Try.underlying57 Try.underlying5 Try.underlying9 (by
    intro j hj
    have : j = 0 := by simpa using hj
    subst this
    have e : (UInt8.ofNat d).toNat = d := by rw [UInt8.toNat_ofNat']; omega
    simp [go_sem, Addr.add, e])
  exact this
theorem cat_one9 (d : UInt8) (t : List UInt8) : ((⟨#[d]⟩ : ByteArray) ++ ⟨t.toArray⟩) = ⟨(d :: t).toArray⟩ := by
  apply ByteArray.ext
  simp
def strS (v : Value) : Nat := match v with | .string s => s.size | _ => 0
/-- How far the text is. -/
def TxS (N m : Nat) (t : List UInt8) : Prop := (t = [] ∧ m = N) ∨ (¬ t = [] ∧ ∃ f, m < 10 ^ f ∧ f + t.length ≤ 58 ∧ txF f m t = txN N)
theorem TxS.step {N m : Nat} {t : List UInt8} (h : TxS N m t) (hN : N < 6277101735386680763835789423207666416102355444464034512896) (hz : t = [] ∨ ¬ m = 0) : TxS N (m / 10) (UInt8.ofNat (48 + m % 10) :: t) ∧ t.length < 58 := by
  rcases h with ⟨rfl, rfl⟩ | ⟨h1, f, h2, h3, h4⟩
  · refine ⟨.inr ⟨by simp, ?_⟩, by simp⟩
    by_cases h0 : m = 0
    · subst h0
      exact ⟨0, by simp, by simp, by rfl⟩
    · refine ⟨57, ?_, by simp, ?_⟩
      · have : m < 10 ^ 58 := Nat.lt_trans hN (by decide)
        rw [Nat.pow_succ] at this
        omega
      · unfold txN
        rw [if_neg h0]
        exact (if_neg h0).symm
  · have hm : ¬ m = 0 := hz.resolve_left h1
    cases f with
    | zero => simp at h2; omega
    | succ f =>
      refine ⟨.inr ⟨by simp, f, ?_, by simp only [List.length_cons]; omega, ?_⟩, by omega⟩
      · rw [Nat.pow_succ] at h2; omega
      · rw [← h4]; exact (if_neg hm).symm
theorem TxS.fin {N : Nat} {t : List UInt8} (h : TxS N 0 t) (ht : ¬ t = []) : txN N = t := by
  rcases h with ⟨rfl, rfl⟩ | ⟨h1, f, h2, h3, h4⟩
  · exact absurd rfl ht
  · rw [← h4, txF_zero]
set_option maxRecDepth 20000 in
set_option maxHeartbeats 8000000 in
theorem rtext9_any (N : Nat) (w : World) (hN : N < 6277101735386680763835789423207666416102355444464034512896) :
    Calls Try.prog 25 #[costV N] w fun e w' => e = .returned (.string ⟨(txN N).toArray⟩) ∧ Below w.heap.size w w' := by
  have HN := hid9 hN
  have HA := hid9 (atc_new w w.heap.size (cost0 N) (cost1 N) (cost2 N) 24 rfl)
  have HB := hid9 (bl1 w (.cells #[.int .u64 (cost0 N), .int .u64 (cost1 N), .int .u64 (cost2 N)] 24))
  rw [show costV N = .agg #[.int .u64 (cost0 N), .int .u64 (cost1 N), .int .u64 (cost2 N)] from rfl]
  go_enter Try.func25, Try.ntmps25
  go_wp2_with fail
  go_loopw [3] (fun b wr => ∃ (m : Nat) (t : List UInt8) (S : ByteArray), b = .string S ∧ Hid (S = ⟨t.toArray⟩) ∧ S.size ≤ 58 ∧ Hid (TxS N m t ∧ AtC wr w.heap.size (cost0 m) (cost1 m) (cost2 m) ∧ Below w.heap.size w wr) ∧ m < 6277101735386680763835789423207666416102355444464034512896) (fun b _ => 60 - strS b)
  case atStart => exact ⟨N, [], ⟨#[]⟩, rfl, rfl, by decide, ⟨.inl ⟨rfl, rfl⟩, HA.out, HB.out⟩, hN⟩
  case round =>
    obtain ⟨m, t, S, rfl, HS, hS, HH, hm⟩ := hrel
    clear HA HB hN
    have hq := eqC_any (cost0 m) (cost1 m) (cost2 m) (cost0 0) (cost1 0) (cost2 0)
    rw [eq9_cost, cost_zero.1, cost_zero.2.1, cost_zero.2.2] at hq
    have he := empty9 S
    have ht : S.size = t.length := by rw [HS.out]; rfl
    by_cases hz : m = 0 ∧ ¬ t = []
    · have hl : ¬ S.size = 0 := by rw [ht]; intro q; exact hz.2 (List.length_eq_zero_iff.mp q)
      rw [decide_eq_false hl] at he
      rw [decide_eq_true hz.1] at hq
      have HX : Hid (txN N = t) := by
        have h := HH.out.1
        rw [hz.1] at h
        exact h.fin hz.2
      obtain ⟨c0, c1, c2, -, -, -⟩ := HH.out.2.1
      have HB2 := hid9 HH.out.2.2
      clear HH hz hl ht
      generalize cost0 m = v0 at *
      generalize cost1 m = v1 at *
      generalize cost2 m = v2 at *
      go_wp2
      go_ret
      exact ⟨by rw [HX.out, ← HS.out]; rfl, HB2.out⟩
    · have hst := HH.out.1.step HN.out (by
        by_cases q : t = []
        · exact .inl q
        · exact .inr (fun e => hz ⟨e, q⟩))
      have HX := hid9 hst.1
      have hlen := hst.2
      have KT := fun w => rtenth_any m w hm
      unfold costV at KT
      have hv := fun wr => one_conv9 wr (48 + m % 10) (by omega)
      have hd : ((48 + m % 10 : Nat) : Int) = 48 + ((m % 10 : Nat) : Int) := by omega
      rw [hd] at hv
      obtain ⟨D, HD⟩ : ∃ D : ByteArray, Hid (D = ⟨#[UInt8.ofNat (48 + m % 10)]⟩) := ⟨_, rfl⟩
      rw [← HD.out] at hv
      have hDs : D.size = 1 := by rw [HD.out]; rfl
      have HDS : Hid (D ++ S = ⟨(UInt8.ofNat (48 + m % 10) :: t).toArray⟩) := by
        show _ = _
        rw [HD.out, HS.out, cat_one9]
      have hDS : (D ++ S).size = S.size + 1 := by
        rw [HDS.out, ht]; simp [ByteArray.size]
      have HSZ := hid9 hDS
      have hcat : ¬ 9223372036854775807 < D.size + S.size := by omega
      have w1 : IntKind.i64.wrap (48 + ((m % 10 : Nat) : Int)) = 48 + ((m % 10 : Nat) : Int) := by rw [IntKind.wrap_i64]; omega
      have w2 : IntKind.u8.wrap (48 + ((m % 10 : Nat) : Int)) = 48 + ((m % 10 : Nat) : Int) := by rw [IntKind.wrap_u8]; omega
      have hm2 : m / 10 < 6277101735386680763835789423207666416102355444464034512896 := by omega
      have HL : Hid (S.size < 58) := by rw [ht]; exact hlen
      have HE := hid9 (And.intro HH.out.2.1 HH.out.2.2)
      have hzz : (S.size = 0) ∨ ¬ m = 0 := by
        by_cases q : t = []
        · left; rw [ht, q]; rfl
        · right; exact fun e => hz ⟨e, q⟩
      obtain ⟨c0, c1, c2, -, -, -⟩ := HH.out.2.1
      clear HH hst hd hz ht hlen HD hDS
      generalize UInt8.ofNat (48 + m % 10) = dD at *
      generalize ((m % 10 : Nat) : Int) = dI at *
      generalize m / 10 = M at *
      by_cases hs0 : S.size = 0
      · rw [decide_eq_true hs0] at he
        clear hq hzz
        generalize cost0 m = v0 at *
        generalize cost1 m = v1 at *
        generalize cost2 m = v2 at *
        go_wp2_with fail
        refine (KT _).mono ?_
        rintro e w1' ⟨rfl, hb⟩
        have A1 := HE.out.1.below hb
        have q4 := bl1 w1' (.cells #[.int .u64 (cost0 M), .int .u64 (cost1 M), .int .u64 (cost2 M)] 24)
        have A2 := hid9 (A1.below q4)
        have B2 := hid9 (keepb q4 (keepb hb HE.out.2))
        have N4 := hid9 (atc_new w1' w1'.heap.size (cost0 M) (cost1 M) (cost2 M) 24 rfl)
        have hlt4 : Hid (w.heap.size < w1'.heap.size) := A1.lt
        clear HE KT hb q4 A1 c0 c1 c2
        generalize hv0 : cost0 M = d0 at *
        generalize hv1 : cost1 M = d1 at *
        generalize hv2 : cost2 M = d2 at *
        have HV := hid9 (And.intro hv0 (And.intro hv1 hv2))
        clear hv0 hv1 hv2
        have hv4 := hv (w1'.alloc (.cells #[.int .u64 d0, .int .u64 d1, .int .u64 d2] 24))
        have hz4 : (w1'.alloc (.cells #[.int .u64 d0, .int .u64 d1, .int .u64 d2] 24)).heap.size = w1'.heap.size + 1 := by simp
        rw [hz4] at hv4
        clear hz4
        have q5 := bl1 (w1'.alloc (.cells #[.int .u64 d0, .int .u64 d1, .int .u64 d2] 24)) (.cells #[.int .u8 (48 + dI)] 5)
        have A3 := hid9 (A2.out.below q5)
        have B3 := hid9 (keepb q5 B2.out)
        have N5 := hid9 (N4.out.below q5)
        clear A2 B2 N4 q5 hv
        have A4 := hid9 (A3.out.set d0 d1 d2)
        have B4 := hid9 (bset3c B3.out (Nat.le_refl _) (.int .u64 d0) (.int .u64 d1) (.int .u64 d2))
        obtain ⟨r0, r1, r2, r3, r4, r5⟩ := A3.out
        obtain ⟨n0, n1, n2, -, -, -⟩ := N5.out
        clear A3 B3 N5
        go_wp2
        go_roundw
        case rel => exact ⟨M, dD :: t, D ++ S, rfl, HDS, by have := HSZ.out; have := HL.out; omega, ⟨HX.out, by rw [HV.out.1, HV.out.2.1, HV.out.2.2]; exact A4.out, B4.out⟩, hm2⟩
        case measure => have := HSZ.out; have := HL.out; simp only [strS]; omega
      · rw [decide_eq_false hs0] at he
        rw [decide_eq_false (hzz.resolve_left hs0)] at hq
        clear hzz
        generalize cost0 m = v0 at *
        generalize cost1 m = v1 at *
        generalize cost2 m = v2 at *
        go_wp2_with fail
        refine (KT _).mono ?_
        rintro e w1' ⟨rfl, hb⟩
        have A1 := HE.out.1.below hb
        have q4 := bl1 w1' (.cells #[.int .u64 (cost0 M), .int .u64 (cost1 M), .int .u64 (cost2 M)] 24)
        have A2 := hid9 (A1.below q4)
        have B2 := hid9 (keepb q4 (keepb hb HE.out.2))
        have N4 := hid9 (atc_new w1' w1'.heap.size (cost0 M) (cost1 M) (cost2 M) 24 rfl)
        have hlt4 : Hid (w.heap.size < w1'.heap.size) := A1.lt
        clear HE KT hb q4 A1 c0 c1 c2
        generalize hv0 : cost0 M = d0 at *
        generalize hv1 : cost1 M = d1 at *
        generalize hv2 : cost2 M = d2 at *
        have HV := hid9 (And.intro hv0 (And.intro hv1 hv2))
        clear hv0 hv1 hv2
        have hv4 := hv (w1'.alloc (.cells #[.int .u64 d0, .int .u64 d1, .int .u64 d2] 24))
        have hz4 : (w1'.alloc (.cells #[.int .u64 d0, .int .u64 d1, .int .u64 d2] 24)).heap.size = w1'.heap.size + 1 := by simp
        rw [hz4] at hv4
        clear hz4
        have q5 := bl1 (w1'.alloc (.cells #[.int .u64 d0, .int .u64 d1, .int .u64 d2] 24)) (.cells #[.int .u8 (48 + dI)] 5)
        have A3 := hid9 (A2.out.below q5)
        have B3 := hid9 (keepb q5 B2.out)
        have N5 := hid9 (N4.out.below q5)
        clear A2 B2 N4 q5 hv
        have A4 := hid9 (A3.out.set d0 d1 d2)
        have B4 := hid9 (bset3c B3.out (Nat.le_refl _) (.int .u64 d0) (.int .u64 d1) (.int .u64 d2))
        obtain ⟨r0, r1, r2, r3, r4, r5⟩ := A3.out
        obtain ⟨n0, n1, n2, -, -, -⟩ := N5.out
        clear A3 B3 N5
        go_wp2
        go_roundw
        case rel => exact ⟨M, dD :: t, D ++ S, rfl, HDS, by have := HSZ.out; have := HL.out; omega, ⟨HX.out, by rw [HV.out.1, HV.out.2.1, HV.out.2.2]; exact A4.out, B4.out⟩, hm2⟩
        case measure => have := HSZ.out; have := HL.out; simp only [strS]; omega
end Go.Proofs.Ytnaamkkjledllaa
/-
  What the call of package cost's Parse does.
-/
namespace Go.Proofs.Ytnaamkkjledllaa
open Go.RowKit
set_option linter.unusedSimpArgs false
set_option linter.unusedVariables false

theorem gh_same9 {x y : Array Value} {d s : Nat} (h : x.toList.eraseIdx d = y.toList.eraseIdx d) (hs : s ≠ d) : x[s]? = y[s]? := by
  have := erase_get x.toList y.toList d s h hs
  simpa using this
/-- What is known in a region that makes a number's variable and fills it. -/
structure RC9 (V : World) (t0 t1 t2 : Int) (b5 b6 : Bool) (g : Nat) (W : World) : Prop where
  bel : Below V.heap.size V W
  a : b5 = true → V.heap.size ≤ g ∧ (if b6 = true then AtC W g t0 t1 t2 else AtC W g 0 0 0)
  c : b6 = true → b5 = true
theorem RC9.below {V : World} {t0 t1 t2 : Int} {b5 b6 : Bool} {g : Nat} {W W' : World} (k : RC9 V t0 t1 t2 b5 b6 g W) (hb : Below W.heap.size W W') : RC9 V t0 t1 t2 b5 b6 g W' := ⟨keepb hb k.bel, fun h => ⟨(k.a h).1, by have := (k.a h).2; cases b6 <;> simp at this ⊢ <;> exact this.below hb⟩, k.c⟩
theorem RC9.al {V : World} {t0 t1 t2 : Int} {b6 : Bool} {g : Nat} {W : World} (k : RC9 V t0 t1 t2 false b6 g W) : RC9 V t0 t1 t2 true b6 W.heap.size (W.alloc (.cells #[.int .u64 0, .int .u64 0, .int .u64 0] 24)) := by
  have h6 : b6 = false := by
    cases h : b6 with
    | false => rfl
    | true => exact absurd (k.c h) (by decide)
  have hb := bl1 W (.cells #[.int .u64 0, .int .u64 0, .int .u64 0] 24)
  have ha := atc_new W W.heap.size 0 0 0 24 rfl
  exact ⟨keepb hb k.bel, fun _ => ⟨k.bel.size, by rw [h6, if_neg (by decide)]; exact ha⟩, fun _ => rfl⟩
theorem RC9.st {V : World} {t0 t1 t2 : Int} {b5 : Bool} {g : Nat} {W : World} (k : RC9 V t0 t1 t2 b5 false g W) (h5 : b5 = true) : RC9 V t0 t1 t2 b5 true g (((W.setCell ⟨g, 0, none⟩ (.int .u64 t0)).setCell ⟨g, 1, none⟩ (.int .u64 t1)).setCell ⟨g, 2, none⟩ (.int .u64 t2)) := by
  obtain ⟨h1, h2⟩ := k.a h5
  rw [if_neg (by decide)] at h2
  exact ⟨((k.bel.setCell (p := ⟨g, 0, none⟩) h1 _).setCell (p := ⟨g, 1, none⟩) h1 _).setCell (p := ⟨g, 2, none⟩) h1 _, fun _ => ⟨h1, by rw [if_pos rfl]; exact h2.set t0 t1 t2⟩, fun _ => h5⟩
/-- The number of the first k digits. -/
def val9 (s : ByteArray) : Nat → Nat
  | 0 => 0
  | k + 1 => val9 s k * 10 + (bAt9 s k - 48).toNat
theorem val9_le (s : ByteArray) : ∀ k m, k ≤ m → val9 s k ≤ val9 s m := by
  intro k m h
  induction m with
  | zero => have : k = 0 := by omega
            subst this; exact Nat.le_refl _
  | succ m ih =>
    by_cases e : k = m + 1
    · subst e; exact Nat.le_refl _
    · have := ih (by omega)
      simp only [val9]; omega
/-- What Parse tells. -/
def par9N (s : ByteArray) : Nat := if num9 s = true then fitN (val9 s s.size) else 0
def par9E (s : ByteArray) : Int := if num9 s = true then fitE9 (val9 s s.size) else 12
set_option maxRecDepth 20000 in
set_option maxHeartbeats 8000000 in
theorem parse9_any (s : ByteArray) (w : World) (hs : s.size ≤ maxLen) :
    Calls Try.prog 22 #[.string s] w fun e w' => e = .returned (.tuple #[costV (par9N s), .int .i64 (par9E s)]) ∧ Below w.heap.size w w' := by
  have KN := fun w => isNumber_any s w hs
  unfold maxLen at hs
  have A0 := hid9 (atc_new w w.heap.size 0 0 0 24 rfl)
  have B0 := hid9 (bl1 w (.cells #[.int .u64 0, .int .u64 0, .int .u64 0] 24))
  cases hn : num9 s
  · have e1 : par9N s = 0 ∧ par9E s = 12 := by unfold par9N par9E; rw [hn]; exact ⟨rfl, rfl⟩
    rw [e1.1, e1.2, costV_zero]
    rw [hn] at KN
    go_enter Try.func22, Try.ntmps22
    go_wp2_with fail
    refine (KN _).mono ?_
    rintro e w1 ⟨rfl, rfl⟩
    go_wp2
    exact bodyPost_ret (v := .tuple #[.agg #[.int .u64 0, .int .u64 0, .int .u64 0], .int .i64 12]) (by simp [results, Try.results22, go_sem]) rfl ⟨rfl, B0.out⟩
  · have HP : Hid (par9N s = fitN (val9 s s.size) ∧ par9E s = fitE9 (val9 s s.size)) := by show _ ∧ _; unfold par9N par9E; rw [if_pos hn, if_pos hn]; exact ⟨rfl, rfl⟩
    have HD : Hid (∀ k, k < s.size → 48 ≤ bAt9 s k ∧ bAt9 s k ≤ 57) := by
      intro k hk
      unfold num9 at hn
      simp only [Bool.and_eq_true] at hn
      have h := all9_le s (k + 1) s.size (by omega) hn.2
      simp only [all9, Bool.and_eq_true] at h
      exact of_decide_eq_true h.2
    have HB := hid9 (fun k (hk : k < s.size) => bAt9_in s k hk)
    rw [hn] at KN
    have HN := hid9 hn
    clear hn
    go_enter Try.func22, Try.ntmps22
    go_wp2_with fail
    refine (KN _).mono ?_
    rintro e w1 ⟨rfl, rfl⟩
    clear KN
    have A1 := hid9 (atc_new (w.alloc (.cells #[.int .u64 0, .int .u64 0, .int .u64 0] 24)) (w.heap.size + 1) 0 0 0 24 (by simp))
    have B1 := hid9 (bl1 (w.alloc (.cells #[.int .u64 0, .int .u64 0, .int .u64 0] 24)) (.cells #[.int .u64 0, .int .u64 0, .int .u64 0] 24))
    go_wp2_with fail
    go_loopw [14] (fun i wr => ∃ k : Nat, k ≤ s.size ∧ i = .int .i64 k ∧ val9 s k < 6277101735386680763835789423207666416102355444464034512896 ∧ Hid (AtC wr (w.heap.size + 1) (cost0 (val9 s k)) (cost1 (val9 s k)) (cost2 (val9 s k)) ∧ AtC wr w.heap.size 0 0 0 ∧ Below w.heap.size w wr)) (fun i _ => s.size - (intOf i).toNat)
    case atStart => exact ⟨0, by omega, rfl, by simp [val9], ⟨by simp only [val9]; rw [cost_zero.1, cost_zero.2.1, cost_zero.2.2]; exact A1.out, A0.out.below B1.out, keepb B1.out B0.out⟩⟩
    case round =>
      clear A0 B0 A1 B1
      obtain ⟨k, hk, rfl, hv, HE⟩ := hrel
      by_cases hlt : (k : Int) < (s.size : Int)
      · have hks : k < s.size := by omega
        have hbt := HB.out k hks
        have bd := HD.out k hks
        have HV : Hid (val9 s (k + 1) = val9 s k * 10 + (bAt9 s k - 48).toNat) := rfl
        have KT := fun w => times_any (val9 s k) 10 (bAt9 s k - 48).toNat w hv (by omega) (by omega)
        rw [← HV.out] at KT
        have ed : ((bAt9 s k - 48).toNat : Int) = bAt9 s k - 48 := by omega
        rw [ed] at KT
        have w8 : IntKind.u8.wrap (bAt9 s k - 48) = bAt9 s k - 48 := by rw [IntKind.wrap_u8]; omega
        have w9 : IntKind.u64.wrap (bAt9 s k - 48) = bAt9 s k - 48 := by rw [IntKind.wrap_u64]; omega
        have mk : IntKind.i64.wrap ((k : Int) + 1) = (k : Int) + 1 := by rw [IntKind.wrap_i64]; omega
        have HZ := hid9 hv
        have HK := hid9 hk
        generalize hc : bAt9 s k = c at *
        have Hc := hid9 hc
        clear HD HB hv hk ed hc
        rw [show ((10 : Nat) : Int) = 10 from rfl] at KT
        unfold costV at KT
        generalize hd : c - 48 = d at *
        have w7 : IntKind.u8.wrap (c - 48) = d := by rw [hd]; exact w8
        have Hd := hid9 hd
        clear hd w8
        obtain ⟨ov, hov⟩ : ∃ q, q = cost0 (val9 s (k + 1)) / 18446744073709551616 := ⟨_, rfl⟩
        obtain ⟨t0, ht0⟩ : ∃ q, q = cost0 (val9 s (k + 1)) % 18446744073709551616 := ⟨_, rfl⟩
        obtain ⟨t1, ht1⟩ : ∃ q, q = cost1 (val9 s (k + 1)) := ⟨_, rfl⟩
        obtain ⟨t2, ht2⟩ : ∃ q, q = cost2 (val9 s (k + 1)) := ⟨_, rfl⟩
        rw [← hov, ← ht0, ← ht1, ← ht2] at KT
        have HT := hid9 (And.intro hov (And.intro ht0 (And.intro ht1 ht2)))
        clear hov ht0 ht1 ht2
        generalize cost0 (val9 s k) = x0 at *
        generalize cost1 (val9 s k) = x1 at *
        generalize cost2 (val9 s k) = x2 at *
        have HC : Hid (∀ X, Below wr.heap.size wr X → AtC X (w.heap.size + 1) x0 x1 x2) := fun X hb => HE.out.1.below hb
        go_wp2_with fail
        refine gh_region (γ := Nat) (qpOk 13 13 (by decide) (fun N => by kernel_rfl) (by kernel_rfl) (by kernel_rfl) (by kernel_rfl) (by kernel_rfl)) (by kernel_rfl) (by kernel_rfl) [some 18, some 19, some 20, some 21, some 22, some 23, some 24, some 17, some 25, some 26, some 6, none, some 7] (fun g => [.agg #[.int .u64 x0, .int .u64 x1, .int .u64 x2], .string s, .int .i64 (k : Int), .int .u8 c, .int .u8 d, .int .u64 d, .tuple #[.agg #[.int .u64 t0, .int .u64 t1, .int .u64 t2], .int .u64 ov], .tuple #[.agg #[.int .u64 t0, .int .u64 t1, .int .u64 t2], .int .u64 ov], .agg #[.int .u64 t0, .int .u64 t1, .int .u64 t2], .int .u64 ov, .pointer (some ⟨g, 0, none⟩), undef, .int .u64 ov]) (by kernel_rfl) (by simp) (fun lp g V => RC9 wr t0 t1 t2 (lp.getD 10 false) (lp.getD 11 false) g V) 0 ⟨below_drewN (Below.refl _ _) 1, fun h => (by simp at h), fun h => (by simp at h)⟩ ?step ?fin
        case step =>
          intro q o lp g w' a' ho hsz hun hdep hR hS K Q' hK
          have hfl : ∀ j, j ≠ q → (lp.setIfInBounds q true).getD j false = lp.getD j false := fun j hj => by rw [Array.getD_eq_getD_getElem?, Array.getD_eq_getD_getElem?, Array.getElem?_setIfInBounds_ne (by omega)]
          have hq : q < 13 := (List.getElem?_eq_some_iff.mp ho).1
          obtain ⟨x0', x1', x2', -, -, -⟩ := HC.out w' hR.bel
          match q, ho, hun, hdep, hK, hfl, hq with
          | 0, ho, hun, hdep, hK, hfl, _ =>
            obtain rfl := Option.some.inj ho
            have o4 : a'.tmps[4]? = some (.pointer (some ⟨w.heap.size + 1, 0, none⟩)) := (hS.old9 4 (by simp)).trans rfl
            have hK' := hK g w' (fun _ _ _ _ _ _ => rfl) (by rw [hfl 10 (by decide), hfl 11 (by decide)]; exact hR) (.agg #[.int .u64 x0, .int .u64 x1, .int .u64 x2]) (by simp only [valO, Option.bind_some]; simp only [putAll, Act.put, List.setIfInBounds_toArray, List.set_cons_zero, List.set_cons_succ]; rfl)
            clear hS hdep hR
            refine gh_quiet9 (v := .agg #[.int .u64 x0, .int .u64 x1, .int .u64 x2]) ?_ ?_
            · (simp only [execOp, Act.eval, o4]; go_simp; first | done | (simp; done) | (simp [*]; done) | omega | (simp; omega) | (simp [*]; omega))
            · exact hK'
          | 1, ho, hun, hdep, hK, hfl, _ =>
            obtain rfl := Option.some.inj ho
            have o0 : a'.tmps[0]? = some (.string s) := (hS.old9 0 (by simp)).trans rfl
            have hK' := hK g w' (fun _ _ _ _ _ _ => rfl) (by rw [hfl 10 (by decide), hfl 11 (by decide)]; exact hR) (.string s) (by simp only [valO, Option.bind_some]; simp only [putAll, Act.put, List.setIfInBounds_toArray, List.set_cons_zero, List.set_cons_succ]; rfl)
            clear hS hdep hR
            refine gh_quiet9 (v := .string s) ?_ ?_
            · (simp only [execOp, Act.eval, o0]; go_simp; first | done | (simp; done) | (simp [*]; done) | omega | (simp; omega) | (simp [*]; omega))
            · exact hK'
          | 2, ho, hun, hdep, hK, hfl, _ =>
            obtain rfl := Option.some.inj ho
            have o5 : a'.tmps[5]? = some (.int .i64 (k : Int)) := (hS.old9 5 (by simp)).trans rfl
            have hK' := hK g w' (fun _ _ _ _ _ _ => rfl) (by rw [hfl 10 (by decide), hfl 11 (by decide)]; exact hR) (.int .i64 (k : Int)) (by simp only [valO, Option.bind_some]; simp only [putAll, Act.put, List.setIfInBounds_toArray, List.set_cons_zero, List.set_cons_succ]; rfl)
            clear hS hdep hR
            refine gh_quiet9 (v := .int .i64 (k : Int)) ?_ ?_
            · (simp only [execOp, Act.eval, o5]; go_simp; first | done | (simp; done) | (simp [*]; done) | omega | (simp; omega) | (simp [*]; omega))
            · exact hK'
          | 3, ho, hun, hdep, hK, hfl, _ =>
            obtain rfl := Option.some.inj ho
            have d1 : lp.getD 1 false = true := hdep { on := 1, ground := .data } (by simp) rfl
            have e19 : a'.tmps[19]? = some (.string s) := (hS.don 1 _ 19 rfl d1 rfl).trans (by simp only [putAll, Act.put, List.setIfInBounds_toArray, List.set_cons_zero, List.set_cons_succ]; rfl)
            have d2 : lp.getD 2 false = true := hdep { on := 2, ground := .data } (by simp) rfl
            have e20 : a'.tmps[20]? = some (.int .i64 (k : Int)) := (hS.don 2 _ 20 rfl d2 rfl).trans (by simp only [putAll, Act.put, List.setIfInBounds_toArray, List.set_cons_zero, List.set_cons_succ]; rfl)
            have hK' := hK g w' (fun _ _ _ _ _ _ => rfl) (by rw [hfl 10 (by decide), hfl 11 (by decide)]; exact hR) (.int .u8 c) (by simp only [valO, Option.bind_some]; simp only [putAll, Act.put, List.setIfInBounds_toArray, List.set_cons_zero, List.set_cons_succ]; rfl)
            clear hS hdep hR
            refine gh_quiet9 (v := .int .u8 c) ?_ ?_
            · (simp only [execOp, Act.eval, e19, e20]; go_simp; first | done | (simp; done) | (simp [*]; done) | omega | (simp; omega) | (simp [*]; omega))
            · exact hK'
          | 4, ho, hun, hdep, hK, hfl, _ =>
            obtain rfl := Option.some.inj ho
            have d3 : lp.getD 3 false = true := hdep { on := 3, ground := .data } (by simp) rfl
            have e21 : a'.tmps[21]? = some (.int .u8 c) := (hS.don 3 _ 21 rfl d3 rfl).trans (by simp only [putAll, Act.put, List.setIfInBounds_toArray, List.set_cons_zero, List.set_cons_succ]; rfl)
            have hK' := hK g w' (fun _ _ _ _ _ _ => rfl) (by rw [hfl 10 (by decide), hfl 11 (by decide)]; exact hR) (.int .u8 d) (by simp only [valO, Option.bind_some]; simp only [putAll, Act.put, List.setIfInBounds_toArray, List.set_cons_zero, List.set_cons_succ]; rfl)
            clear hS hdep hR
            refine gh_quiet9 (v := .int .u8 d) ?_ ?_
            · (simp only [execOp, Act.eval, e21]; go_simp; first | done | (simp; done) | (simp [*]; done) | omega | (simp; omega) | (simp [*]; omega))
            · exact hK'
          | 5, ho, hun, hdep, hK, hfl, _ =>
            obtain rfl := Option.some.inj ho
            have d4 : lp.getD 4 false = true := hdep { on := 4, ground := .data } (by simp) rfl
            have e22 : a'.tmps[22]? = some (.int .u8 d) := (hS.don 4 _ 22 rfl d4 rfl).trans (by simp only [putAll, Act.put, List.setIfInBounds_toArray, List.set_cons_zero, List.set_cons_succ]; rfl)
            have hK' := hK g w' (fun _ _ _ _ _ _ => rfl) (by rw [hfl 10 (by decide), hfl 11 (by decide)]; exact hR) (.int .u64 d) (by simp only [valO, Option.bind_some]; simp only [putAll, Act.put, List.setIfInBounds_toArray, List.set_cons_zero, List.set_cons_succ]; rfl)
            clear hS hdep hR
            refine gh_quiet9 (v := .int .u64 d) ?_ ?_
            · (simp only [execOp, Act.eval, e22]; go_simp; first | done | (simp; done) | (simp [*]; done) | omega | (simp; omega) | (simp [*]; omega))
            · exact hK'
          | 6, ho, hun, hdep, hK, hfl, _ =>
            obtain rfl := Option.some.inj ho
            have d0 : lp.getD 0 false = true := hdep { on := 0, ground := .data } (by simp) rfl
            have e18 : a'.tmps[18]? = some (.agg #[.int .u64 x0, .int .u64 x1, .int .u64 x2]) := (hS.don 0 _ 18 rfl d0 rfl).trans (by simp only [putAll, Act.put, List.setIfInBounds_toArray, List.set_cons_zero, List.set_cons_succ]; rfl)
            have d5 : lp.getD 5 false = true := hdep { on := 5, ground := .data } (by simp) rfl
            have e23 : a'.tmps[23]? = some (.int .u64 d) := (hS.don 5 _ 23 rfl d5 rfl).trans (by simp only [putAll, Act.put, List.setIfInBounds_toArray, List.set_cons_zero, List.set_cons_succ]; rfl)
            have KE := KT w'
            clear hdep
            unfold Oper.wp
            simp only [execOp, Act.eval]
            simp [go_sem, e18, e23, Oper.upon]
            refine KE.mono ?_
            rintro e W2 ⟨rfl, hb2⟩
            exact hK g W2 (fun _ _ _ _ _ _ => rfl) (by rw [hfl 10 (by decide), hfl 11 (by decide)]; exact hR.below hb2) _ (by simp only [valO, Option.bind_some]; simp only [putAll, Act.put, List.setIfInBounds_toArray, List.set_cons_zero, List.set_cons_succ]; rfl)
          | 7, ho, hun, hdep, hK, hfl, _ =>
            obtain rfl := Option.some.inj ho
            have d6 : lp.getD 6 false = true := hdep { on := 6, ground := .data } (by simp) rfl
            have e24 : a'.tmps[24]? = some (.tuple #[.agg #[.int .u64 t0, .int .u64 t1, .int .u64 t2], .int .u64 ov]) := (hS.don 6 _ 24 rfl d6 rfl).trans (by simp only [putAll, Act.put, List.setIfInBounds_toArray, List.set_cons_zero, List.set_cons_succ]; rfl)
            have hK' := hK g w' (fun _ _ _ _ _ _ => rfl) (by rw [hfl 10 (by decide), hfl 11 (by decide)]; exact hR) (.tuple #[.agg #[.int .u64 t0, .int .u64 t1, .int .u64 t2], .int .u64 ov]) (by simp only [valO, Option.bind_some]; simp only [putAll, Act.put, List.setIfInBounds_toArray, List.set_cons_zero, List.set_cons_succ]; rfl)
            clear hS hdep hR
            refine gh_quiet9 (v := .tuple #[.agg #[.int .u64 t0, .int .u64 t1, .int .u64 t2], .int .u64 ov]) ?_ ?_
            · (simp only [execOp, Act.eval, e24]; go_simp; first | done | (simp; done) | (simp [*]; done) | omega | (simp; omega) | (simp [*]; omega))
            · exact hK'
          | 8, ho, hun, hdep, hK, hfl, _ =>
            obtain rfl := Option.some.inj ho
            have d7 : lp.getD 7 false = true := hdep { on := 7, ground := .data } (by simp) rfl
            have e17 : a'.tmps[17]? = some (.tuple #[.agg #[.int .u64 t0, .int .u64 t1, .int .u64 t2], .int .u64 ov]) := (hS.don 7 _ 17 rfl d7 rfl).trans (by simp only [putAll, Act.put, List.setIfInBounds_toArray, List.set_cons_zero, List.set_cons_succ]; rfl)
            have hK' := hK g w' (fun _ _ _ _ _ _ => rfl) (by rw [hfl 10 (by decide), hfl 11 (by decide)]; exact hR) (.agg #[.int .u64 t0, .int .u64 t1, .int .u64 t2]) (by simp only [valO, Option.bind_some]; simp only [putAll, Act.put, List.setIfInBounds_toArray, List.set_cons_zero, List.set_cons_succ]; rfl)
            clear hS hdep hR
            refine gh_quiet9 (v := .agg #[.int .u64 t0, .int .u64 t1, .int .u64 t2]) ?_ ?_
            · (simp only [execOp, Act.eval, e17]; go_simp; first | done | (simp; done) | (simp [*]; done) | omega | (simp; omega) | (simp [*]; omega))
            · exact hK'
          | 9, ho, hun, hdep, hK, hfl, _ =>
            obtain rfl := Option.some.inj ho
            have d7 : lp.getD 7 false = true := hdep { on := 7, ground := .data } (by simp) rfl
            have e17 : a'.tmps[17]? = some (.tuple #[.agg #[.int .u64 t0, .int .u64 t1, .int .u64 t2], .int .u64 ov]) := (hS.don 7 _ 17 rfl d7 rfl).trans (by simp only [putAll, Act.put, List.setIfInBounds_toArray, List.set_cons_zero, List.set_cons_succ]; rfl)
            have hK' := hK g w' (fun _ _ _ _ _ _ => rfl) (by rw [hfl 10 (by decide), hfl 11 (by decide)]; exact hR) (.int .u64 ov) (by simp only [valO, Option.bind_some]; simp only [putAll, Act.put, List.setIfInBounds_toArray, List.set_cons_zero, List.set_cons_succ]; rfl)
            clear hS hdep hR
            refine gh_quiet9 (v := .int .u64 ov) ?_ ?_
            · (simp only [execOp, Act.eval, e17]; go_simp; first | done | (simp; done) | (simp [*]; done) | omega | (simp; omega) | (simp [*]; omega))
            · exact hK'
          | 10, ho, hun, hdep, hK, hfl, _ =>
            obtain rfl := Option.some.inj ho
            rw [hun] at hR
            have hK' := hK w'.heap.size (w'.alloc (.cells #[.int .u64 0, .int .u64 0, .int .u64 0] 24)) (fun k ok s hk hl hd => gh_same9 (d := 6) (s := s) (by simp only [putAll, Act.put, List.setIfInBounds_toArray, List.set_cons_zero, List.set_cons_succ]; rfl) (by rintro rfl; have := dstG_of (by kernel_rfl) k 10 ok _ 6 hk rfl hd rfl; subst this; rw [hun] at hl; cases hl)) (by rw [hfl 11 (by decide), getD_set_same (by rw [hsz]; decide)]; exact hR.al) (.pointer (some ⟨w'.heap.size, 0, none⟩)) (by simp only [valO, Option.bind_some]; simp only [putAll, Act.put, List.setIfInBounds_toArray, List.set_cons_zero, List.set_cons_succ]; rfl)
            clear hS hdep hR
            unfold Oper.wp
            simp only [execOp]
            go_simp
            exact hK'
          | 11, ho, hun, hdep, hK, hfl, _ =>
            obtain rfl := Option.some.inj ho
            have d8 : lp.getD 8 false = true := hdep { on := 8, ground := .data } (by simp) rfl
            have e25 : a'.tmps[25]? = some (.agg #[.int .u64 t0, .int .u64 t1, .int .u64 t2]) := (hS.don 8 _ 25 rfl d8 rfl).trans (by simp only [putAll, Act.put, List.setIfInBounds_toArray, List.set_cons_zero, List.set_cons_succ]; rfl)
            have d10 : lp.getD 10 false = true := hdep { on := 10, ground := .data } (by simp) rfl
            have e6 : a'.tmps[6]? = some (.pointer (some ⟨g, 0, none⟩)) := (hS.don 10 _ 6 rfl d10 rfl).trans (by simp only [putAll, Act.put, List.setIfInBounds_toArray, List.set_cons_zero, List.set_cons_succ]; rfl)
            rw [hun] at hR
            have hz := (hR.a d10).2
            simp only [Bool.false_eq_true, if_false] at hz
            obtain ⟨z0, z1, z2, k0, k1, k2⟩ := hz
            have hK' := hK g _ (fun _ _ _ _ _ _ => rfl) (by rw [hfl 10 (by decide), getD_set_same (by rw [hsz]; decide)]; exact hR.st d10) undef rfl
            clear hS hdep hR
            unfold Oper.wp
            simp [execOp, Act.eval, e25, e6, go_sem, z0, z1, z2, k0, k1, k2, Oper.upon]
            exact hK'
          | 12, ho, hun, hdep, hK, hfl, _ =>
            obtain rfl := Option.some.inj ho
            have d9 : lp.getD 9 false = true := hdep { on := 9, ground := .data } (by simp) rfl
            have e26 : a'.tmps[26]? = some (.int .u64 ov) := (hS.don 9 _ 26 rfl d9 rfl).trans (by simp only [putAll, Act.put, List.setIfInBounds_toArray, List.set_cons_zero, List.set_cons_succ]; rfl)
            have hK' := hK g w' (fun _ _ _ _ _ _ => rfl) (by rw [hfl 10 (by decide), hfl 11 (by decide)]; exact hR) (.int .u64 ov) (by simp only [valO, Option.bind_some]; simp only [putAll, Act.put, List.setIfInBounds_toArray, List.set_cons_zero, List.set_cons_succ]; rfl)
            clear hS hdep hR
            refine gh_quiet9 (v := .int .u64 ov) ?_ ?_
            · (simp only [execOp, Act.eval, e26]; go_simp; first | done | (simp; done) | (simp [*]; done) | omega | (simp; omega) | (simp [*]; omega))
            · exact hK'
          | n + 13, ho, hun, hdep, hK, hfl, hq => exact absurd hq (by omega)
        case fin =>
          intro N1 V2 hR
          have hR : RC9 wr t0 t1 t2 true true N1 V2 := by simpa using hR
          have hz := (hR.a rfl).2
          simp only [if_true] at hz
          have HLa := hid9 hz
          have HV2 := hid9 hR.bel
          have HN1 := hid9 (hR.a rfl).1
          simp only [putAll, Act.put, List.setIfInBounds_toArray, List.set_cons_zero, List.set_cons_succ]
          clear hR hz
          refine wl_nil9 (P := Try.prog) (ops := #[]) ?_
          clear HC KT
          have HB2 := hid9 (keepb HV2.out HE.out.2.2)
          have HX := hid9 (HE.out.1.below HV2.out)
          have HR2 := hid9 (HE.out.2.1.below HV2.out)
          have HNe : Hid (w.heap.size + 1 < wr.heap.size) := HE.out.1.lt
          clear HE HV2
          by_cases ho : ov = 0
          · subst ho
            obtain ⟨l0, l1, l2, -, -, -⟩ := HLa.out
            obtain ⟨u0, u1, u2, v0, v1, v2⟩ := HX.out
            have hnn : ¬ w.heap.size + 1 = N1 := by have := HNe.out; have := HN1.out; omega
            have HX2 := hid9 (HX.out.set t0 t1 t2)
            have HR3 := hid9 (((HR2.out.oth0 (C := w.heap.size + 1) (by omega) t0).oth1 (C := w.heap.size + 1) (by omega) t1).oth2 (C := w.heap.size + 1) (by omega) t2)
            have HB3 := hid9 (bset3c HB2.out (show w.heap.size ≤ w.heap.size + 1 by omega) (.int .u64 t0) (.int .u64 t1) (.int .u64 t2))
            clear HB2 HX HR2 HLa hnn
            go_wp2
            go_roundw
            case rel =>
              have hlt2 : val9 s (k + 1) < 6277101735386680763835789423207666416102355444464034512896 := by
                apply Classical.byContradiction
                intro q
                exact top_out _ q HT.out.1.symm
              refine ⟨k + 1, by omega, by go_num, hlt2, ⟨?_, HR3.out, HB3.out⟩⟩
              rw [← HT.out.2.2.1, ← HT.out.2.2.2, ← (top_in _ hlt2).1, ← HT.out.2.1]
              exact HX2.out
            case measure => simp [intOf]; omega
          · have hob : (ov == 0) = false := by simpa using ho
            have HF : Hid (par9N s = 0 ∧ par9E s = 6) := by
              have q : ¬ val9 s (k + 1) < 6277101735386680763835789423207666416102355444464034512896 := fun q => ho (HT.out.1.trans (top_in _ q).2)
              have q2 : ¬ val9 s s.size < 6277101735386680763835789423207666416102355444464034512896 := by
                have := val9_le s (k + 1) s.size (by omega)
                omega
              show _ ∧ _
              rw [HP.out.1, HP.out.2]
              exact fit_out q2
            have HR3 := hid9 (HR2.out.set 0 0 0)
            have HB3 := hid9 (bset3c HB2.out (Nat.le_refl _) (.int .u64 0) (.int .u64 0) (.int .u64 0))
            obtain ⟨u0, u1, u2, v0, v1, v2⟩ := HR2.out
            clear HB2 HX HR2 HLa
            go_wp2
            obtain ⟨f0, f1, f2, -, -, -⟩ := HR3.out
            exact bodyPost_ret (v := .tuple #[.agg #[.int .u64 0, .int .u64 0, .int .u64 0], .int .i64 6]) (by simp [results, Try.results22, go_sem, f0, f1, f2]) rfl ⟨by rw [HF.out.1, HF.out.2, costV_zero], HB3.out⟩
      · have hk8 : k = s.size := by omega
        have hd : decide ((k : Int) < (s.size : Int)) = false := by simpa using hlt
        have HF : Hid (par9N s = val9 s k ∧ par9E s = 0) := by
          show _ ∧ _
          rw [HP.out.1, HP.out.2, ← hk8]
          exact fit_in hv
        generalize hx0 : cost0 (val9 s k) = x0 at *
        generalize hx1 : cost1 (val9 s k) = x1 at *
        generalize hx2 : cost2 (val9 s k) = x2 at *
        have HG : Hid (costV (val9 s k) = .agg #[.int .u64 x0, .int .u64 x1, .int .u64 x2]) := by show _ = _; unfold costV; rw [hx0, hx1, hx2]
        clear hx0 hx1 hx2 hk8 hv
        obtain ⟨⟨y0, y1, y2, -, -, -⟩, hR, -⟩ := HE.out
        have HR3 := hid9 (hR.set x0 x1 x2)
        have HB3 := hid9 (bset3c HE.out.2.2 (Nat.le_refl _) (.int .u64 x0) (.int .u64 x1) (.int .u64 x2))
        obtain ⟨u0, u1, u2, v0, v1, v2⟩ := hR
        clear HE HB HD HN HP
        go_wp2
        obtain ⟨f0, f1, f2, -, -, -⟩ := HR3.out
        exact bodyPost_ret (v := .tuple #[.agg #[.int .u64 x0, .int .u64 x1, .int .u64 x2], .int .i64 0]) (by simp [results, Try.results22, go_sem, f0, f1, f2]) rfl ⟨by rw [HF.out.1, HF.out.2, HG.out], HB3.out⟩
end Go.Proofs.Ytnaamkkjledllaa
