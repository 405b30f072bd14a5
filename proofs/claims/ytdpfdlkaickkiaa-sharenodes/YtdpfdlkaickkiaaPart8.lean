/-
  Part 8 of the proof: 16 texts, one behind the other.
-/
import Derived.Test.YtdpfdlkaickkiaaPart7
import Derived.Test.YtdpfdlkaickkiaaPart5
import Derived.WideKeyEntry
import Derived.DeepKeys4
import Derived.MapKept
import Derived.Test.YtdpfdlkaickkiaaPart3
import Derived.Test.YtdpfdlkaickkiaaPart4
namespace Go.Proofs.Ytdpfdlkaickkiaa
open Go.RowKit Go.Shelf
set_option linter.unusedSimpArgs false
set_option linter.unusedVariables false
attribute [local go_sem] Oper.semAt_some

def sdI (r : Rn) : Int := if r.k then IntKind.u64.wrap (IntKind.u64.wrap (IntKind.u64.wrap r.n * 2) + 1) else IntKind.u64.wrap (IntKind.u64.wrap r.n * 2)
def stA (x : Int) (d m : Int) : Int := IntKind.u64.wrap (bits .xor .u64 x (x / d) * m)
def stI (s x : Int) : Int := bits .xor .u64 (stA (stA (bits .xor .u64 s x) 1073741824 13787848793156543929) 134217728 10723151780598845931) (stA (stA (bits .xor .u64 s x) 1073741824 13787848793156543929) 134217728 10723151780598845931 / 2147483648)
set_option maxRecDepth 20000 in
set_option maxHeartbeats 4000000 in
theorem said_any (r : Rn) (w : World) :
    Calls Try.prog 86 #[rnV r] w fun e w' => e = .returned (.int .u64 (sdI r)) ∧ Below w.heap.size w w' := by
  obtain ⟨f, k, n⟩ := r
  unfold rnV sdI
  dsimp only
  have hb := bl1 w (.cells #[.int .u64 (hI f), .int .u64 (lI f), .bool k, .int .i64 n] 54)
  cases k with
  | false =>
    go_enter Try.func86, Try.ntmps86
    go_wp2
    exact bodyPost_ret (v := .int .u64 (IntKind.u64.wrap (IntKind.u64.wrap n * 2))) (by simp [results, Try.results86, go_sem]) rfl ⟨rfl, hb⟩
  | true =>
    go_enter Try.func86, Try.ntmps86
    go_wp2
    exact bodyPost_ret (v := .int .u64 (IntKind.u64.wrap (IntKind.u64.wrap (IntKind.u64.wrap n * 2) + 1))) (by simp [results, Try.results86, go_sem]) rfl ⟨rfl, hb⟩
set_option maxRecDepth 20000 in
set_option maxHeartbeats 4000000 in
theorem stir_any (s x : Int) (w : World) :
    Calls Try.prog 85 #[.int .u64 s, .int .u64 x] w fun e w' => e = .returned (.int .u64 (stI s x)) ∧ w' = w := by
  unfold stI stA
  go_enter Try.func85, Try.ntmps85
  go_wp2
  exact bodyPost_ret (v := .int .u64 _) (by simp [results, Try.results85, go_sem]) rfl ⟨rfl, rfl⟩
def smI (l : List Rn) : Int := l.foldl (fun s r => stI (stI (stI s (hI r.f)) (lI r.f)) (sdI r)) 0
theorem smI_take (l : List Rn) (k : Nat) (r : Rn) (h : l[k]? = some r) : smI (l.take (k + 1)) = stI (stI (stI (smI (l.take k)) (hI r.f)) (lI r.f)) (sdI r) := by
  unfold smI
  rw [List.take_add_one, h, Option.toList_some, List.foldl_append]; rfl
def oV (d : Nde) : Value := .agg #[.int .i64 d.b, .int .i64 (d.r.length : Int), .int .u64 (smI d.r)]
set_option maxRecDepth 20000 in
set_option maxHeartbeats 4000000 in
theorem outline_any (b : Int) (vr : Value) (l : List Rn) (w : World) (hv : RwN w vr l) (hl : l.length ≤ 1000000000) :
    Calls Try.prog 73 #[.agg #[.int .i64 b, vr]] w fun e w' => e = .returned (oV ⟨b, l⟩) ∧ Below w.heap.size w w' := by
  obtain ⟨ao, c, hvf, -, hrow⟩ := id hv
  subst hvf
  have q1 := bl1 w (.cells #[.int .i64 b, .slice ao l.length c] 57)
  have q2 := bl1 (w.alloc (.cells #[.int .i64 b, .slice ao l.length c] 57)) (.cells #[.int .i64 0, .int .i64 0, .int .u64 0] 120)
  have n1 := new_16 w (.cells #[.int .i64 b, .slice ao l.length c] 57)
  have n2 := new_16 (w.alloc (.cells #[.int .i64 b, .slice ao l.length c] 57)) (.cells #[.int .i64 0, .int .i64 0, .int .u64 0] 120)
  rw [World.size_alloc] at n2
  have HB : Hid (Below w.heap.size w ((w.alloc (.cells #[.int .i64 b, .slice ao l.length c] 57)).alloc (.cells #[.int .i64 0, .int .i64 0, .int .u64 0] 120)) ∧ ((w.alloc (.cells #[.int .i64 b, .slice ao l.length c] 57)).alloc (.cells #[.int .i64 0, .int .i64 0, .int .u64 0] 120)).heap[w.heap.size]? = some (.cells #[.int .i64 b, .slice ao l.length c] 57) ∧ ((w.alloc (.cells #[.int .i64 b, .slice ao l.length c] 57)).alloc (.cells #[.int .i64 0, .int .i64 0, .int .u64 0] 120)).heap[w.heap.size + 1]? = some (.cells #[.int .i64 0, .int .i64 0, .int .u64 0] 120)) := hid13 ⟨keepb q2 q1, (q2.block _ (lt_16 n1)).trans n1, n2⟩
  have HR := hid13 hrow
  have HL : Hid (l.length ≤ 1000000000) := hl
  clear hv hrow q1 q2 n1 n2
  go_enter Try.func73, Try.ntmps73
  go_wp2_with fail
  revert HB
  generalize (w.alloc (.cells #[.int .i64 b, .slice ao l.length c] 57)).alloc (.cells #[.int .i64 0, .int .i64 0, .int .u64 0] 120) = W0
  intro HB
  go_loopg [3, 9] l.length (fun g sv kv wr => ∃ k : Nat, k + g = l.length ∧ kv = .int .i64 (k : Int) ∧ sv = .int .u64 (smI (l.take k)) ∧ Hid (Below w.heap.size w wr ∧ wr.heap[w.heap.size]? = some (.cells #[.int .i64 b, .slice ao l.length c] 57) ∧ wr.heap[w.heap.size + 1]? = some (.cells #[.int .i64 0, .int .i64 0, .int .u64 0] 120)))
  case atStart => exact ⟨0, by omega, rfl, rfl, HB⟩
  case round =>
    clear HB
    obtain ⟨k, hk, rfl, rfl, HS⟩ := hrel
    have mi : IntKind.i64.wrap ((k : Int) + 1) = ((k + 1 : Nat) : Int) := by rw [IntKind.wrap_i64]; have := HL.out; push_cast; omega
    by_cases hlt : (k : Int) < (l.length : Int)
    · have hkl : k < l.length := by omega
      obtain ⟨r, hr⟩ : ∃ r, l[k]? = some r := ⟨l[k], by simp [hkl]⟩
      obtain ⟨rb, rof, hra, hrc⟩ := HR.out.resolve_left (by rintro rfl; simp at hkl)
      subst hra
      obtain ⟨e0, e1, e2, e3⟩ := (hrc k _ hr).below HS.out.1
      have HT := hid13 (smI_take l k r hr)
      obtain ⟨rf, rk, rn⟩ := r
      dsimp only at e0 e1 e2 e3 HT
      obtain ⟨s0, hs0⟩ : ∃ s0, s0 = smI (l.take k) := ⟨_, rfl⟩
      rw [← hs0] at HT ⊢
      have HJ : Hid (k < l.length ∧ k + gk = l.length) := ⟨hkl, hk⟩
      have q1 := bl1 wr (.cells #[.int .u64 (hI rf), .int .u64 (lI rf), .bool rk, .int .i64 rn] 54)
      have n1 := new_16 wr (.cells #[.int .u64 (hI rf), .int .u64 (lI rf), .bool rk, .int .i64 rn] 54)
      have HQ := hid13 q1
      have HN := hid13 n1
      have K1 := fun s x w => stir_any s x w
      have K2 := fun w => said_any ⟨rf, rk, rn⟩ w
      unfold rnV at K2
      dsimp only at K2
      clear hr hrc hs0 hkl hk q1 n1
      go_wp2_with fail
      refine (K1 _ _ _).mono ?_
      rintro e w2 ⟨rfl, hw2⟩
      subst hw2
      have f1 := at_16 HN.out 1 _ rfl
      go_wp2_with fail
      refine (K1 _ _ _).mono ?_
      rintro e w3 ⟨rfl, hw3⟩
      subst hw3
      have f0 := at_16 HN.out 0 _ rfl
      have f2 := at_16 HN.out 2 _ rfl
      have f3 := at_16 HN.out 3 _ rfl
      go_wp2_with fail
      refine (K2 _).mono ?_
      rintro e w4 ⟨rfl, hb4⟩
      have HB4 := hid13 (keepb hb4 HQ.out)
      clear hb4
      go_wp2_with fail
      refine (K1 _ _ _).mono ?_
      rintro e w5 ⟨rfl, hw5⟩
      subst hw5
      clear f0 f1 f2 f3 e0 e1 e2 e3
      go_wp2
      go_roundg (gk - 1)
      case measure => have := HJ.out; omega
      case rel => exact ⟨k + 1, by have := HJ.out; omega, rfl, by rw [HT.out], hid13 ⟨keepb HB4.out HS.out.1, (HB4.out.block _ (lt_16 HS.out.2.1)).trans HS.out.2.1, (HB4.out.block _ (lt_16 HS.out.2.2)).trans HS.out.2.2⟩⟩
    · have hke : k = l.length := by omega
      have HT : Hid (smI (l.take k) = smI l) := hid13 (by rw [hke, List.take_length])
      have a0 := at_16 HS.out.2.1 0 _ rfl
      have a1 := at_16 HS.out.2.1 1 _ rfl
      have r0 := at_16 HS.out.2.2 0 _ rfl
      have r1 := at_16 HS.out.2.2 1 _ rfl
      have r2 := at_16 HS.out.2.2 2 _ rfl
      have rf0 := fr_16 (j := 0) HS.out.2.2
      have rf1 := fr_16 (j := 1) HS.out.2.2
      have rf2 := fr_16 (j := 2) HS.out.2.2
      obtain ⟨s0, hs0⟩ : ∃ s0, s0 = smI (l.take k) := ⟨_, rfl⟩
      rw [← hs0] at HT ⊢
      clear hs0 hke hk
      have y1 : (wr.setCell ⟨w.heap.size + 1, 0, none⟩ (.int .i64 b)).heap[w.heap.size + 1]? = some (.cells #[.int .i64 b, .int .i64 0, .int .u64 0] 120) := set_16 HS.out.2.2 _
      have y2 : ((wr.setCell ⟨w.heap.size + 1, 0, none⟩ (.int .i64 b)).setCell ⟨w.heap.size + 1, 1, none⟩ (.int .i64 (l.length : Int))).heap[w.heap.size + 1]? = some (.cells #[.int .i64 b, .int .i64 (l.length : Int), .int .u64 0] 120) := set_16 y1 _
      have y3 : (((wr.setCell ⟨w.heap.size + 1, 0, none⟩ (.int .i64 b)).setCell ⟨w.heap.size + 1, 1, none⟩ (.int .i64 (l.length : Int))).setCell ⟨w.heap.size + 1, 2, none⟩ (.int .u64 s0)).heap[w.heap.size + 1]? = some (.cells #[.int .i64 b, .int .i64 (l.length : Int), .int .u64 s0] 120) := set_16 y2 _
      have HZ : Hid (∀ U, U = ((wr.setCell ⟨w.heap.size + 1, 0, none⟩ (.int .i64 b)).setCell ⟨w.heap.size + 1, 1, none⟩ (.int .i64 (l.length : Int))).setCell ⟨w.heap.size + 1, 2, none⟩ (.int .u64 s0) → U.cell? ⟨w.heap.size + 1, 0, none⟩ = some (.int .i64 b) ∧ U.cell? ⟨w.heap.size + 1, 1, none⟩ = some (.int .i64 (l.length : Int)) ∧ U.cell? ⟨w.heap.size + 1, 2, none⟩ = some (.int .u64 s0) ∧ Below w.heap.size w U) := hid13 (by
        rintro U rfl
        exact ⟨at_16 y3 0 _ rfl, at_16 y3 1 _ rfl, at_16 y3 2 _ rfl, ((HS.out.1.setCell (p := ⟨w.heap.size + 1, 0, none⟩) (by show w.heap.size ≤ w.heap.size + 1; omega) _).setCell (p := ⟨w.heap.size + 1, 1, none⟩) (by show w.heap.size ≤ w.heap.size + 1; omega) _).setCell (p := ⟨w.heap.size + 1, 2, none⟩) (by show w.heap.size ≤ w.heap.size + 1; omega) _⟩)
      clear y1 y2 y3
      go_wp2
      obtain ⟨z0, z1, z2, z3⟩ := HZ.out _ rfl
      have HT' := HT.out
      exact bodyPost_ret (v := .agg #[.int .i64 b, .int .i64 (l.length : Int), .int .u64 s0]) (by simp [results, Try.results73, go_sem, z0, z1, z2]) rfl ⟨by rw [HT']; rfl, z3⟩
end Go.Proofs.Ytdpfdlkaickkiaa
namespace Go.Proofs.Ytdpfdlkaickkiaa
open Go.RowKit Go.Shelf
set_option linter.unusedSimpArgs false
set_option linter.unusedVariables false
attribute [local go_sem] Oper.semAt_some

set_option maxHeartbeats 1000000 in
theorem sayS_any (r s : Rn) (w : World) :
    Calls Try.prog 70 #[rnV r, rnV s] w fun e w' => e = .returned (.bool (smR r s)) ∧ Below w.heap.size w w' := by
  obtain ⟨f, k, n⟩ := r
  obtain ⟨g, j, m⟩ := s
  unfold smR rnV
  dsimp only
  by_cases h1 : k = j
  · subst h1
    have e1 : (k == k) = true := by simp
    rw [e1, Bool.true_and]
    go_enter Try.func70, Try.ntmps70
    go_wp2
    go_ret
    exact ⟨by first | rfl | simp, bl2 _ _ _⟩
  · have e1 : (k == j) = false := by simpa using h1
    rw [e1, Bool.false_and]
    clear h1
    go_enter Try.func70, Try.ntmps70
    go_wp2
    go_ret
    exact ⟨by first | rfl | simp, bl2 _ _ _⟩
def eqRn (r s : Rn) : Bool := (r.f == s.f) && (r.k == s.k) && (r.n == s.n)
theorem eqRn_iff (r s : Rn) : eqRn r s = true ↔ r = s := by
  obtain ⟨a, b, c⟩ := r
  obtain ⟨a', b', c'⟩ := s
  unfold eqRn
  simp [and_assoc]
def sqR : List Rn → List Rn → Bool
  | [], [] => true
  | r :: l, s :: m => eqRn r s && sqR l m
  | _, _ => false
theorem sqR_iff : ∀ (l m : List Rn), sqR l m = true ↔ l = m
  | [], [] => by simp [sqR]
  | [], s :: m => by simp [sqR]
  | r :: l, [] => by simp [sqR]
  | r :: l, s :: m => by
    show (eqRn r s && sqR l m) = true ↔ _
    rw [Bool.and_eq_true, eqRn_iff, sqR_iff l m]
    simp
theorem sqR_no {l m : List Rn} (h : l ≠ m) : sqR l m = false := by
  cases e : sqR l m with
  | false => rfl
  | true => exact absurd ((sqR_iff l m).mp e) h
def UptS (l m : List Rn) (k : Nat) : Prop := l.length = m.length ∧ ∀ j, j < k → l[j]? = m[j]?
theorem uptS_no {l m : List Rn} {k : Nat} {r s : Rn} (h1 : l[k]? = some r) (h2 : m[k]? = some s) (h : r ≠ s) : sqR l m = false := by
  apply sqR_no
  rintro rfl
  rw [h1] at h2
  exact h (Option.some.inj h2)
theorem uptS_yes {l m : List Rn} {k : Nat} (h : UptS l m k) (hk : l.length ≤ k) : sqR l m = true := by
  rw [sqR_iff]
  apply List.ext_getElem?
  intro j
  by_cases hj : j < k
  · exact h.2 j hj
  · rw [List.getElem?_eq_none (by omega), List.getElem?_eq_none (by have := h.1; omega)]
theorem uptS_step {l m : List Rn} {k : Nat} {r : Rn} (h : UptS l m k) (h1 : l[k]? = some r) (h2 : m[k]? = some r) : UptS l m (k + 1) := ⟨h.1, fun j hj => by
  by_cases e : j = k
  · subst e; rw [h1, h2]
  · exact h.2 j (by omega)⟩
theorem eqRn_run (x : BitVec 128) (n : Bool) (h : Int) (y : BitVec 128) (m : Bool) (k : Int) (w : World) :
    (Op.equalIn 10000 54 (.agg #[.int .u64 (hI x), .int .u64 (lI x), .bool n, .int .i64 h]) (.agg #[.int .u64 (hI y), .int .u64 (lI y), .bool m, .int .i64 k])).run Try.prog w = .ok (eqRn ⟨x, n, h⟩ ⟨y, m, k⟩) w := by
  unfold eqRn
  dsimp only
  rcases eqw x y with ⟨q1, q2, q3⟩ | ⟨q1, q3⟩ | ⟨q1, q2, q3⟩
  all_goals
    rw [q3]
    go_simp
    try simp [*]
    try (cases n <;> cases m <;> by_cases e2 : h = k <;> simp [e2])
set_option maxHeartbeats 4000000 in
theorem equalRn_any (v u : Value) (l m : List Rn) (w : World) (hv : RwN w v l) (hu : RwN w u m) (hl : l.length ≤ 1000000000) :
    Calls Try.prog 87 #[v, u] w fun e w' => e = .returned (.bool (sqR l m)) ∧ Below w.heap.size w w' := by
  obtain ⟨ao, c, rfl, -, hv⟩ := hv
  obtain ⟨au, d, rfl, -, hu⟩ := hu
  have HV := hid13 hv
  have HU := hid13 hu
  obtain ⟨R, hR⟩ : ∃ R, R = sqR l m := ⟨_, rfl⟩
  have HR := hid13 hR
  rw [← hR]
  clear hv hu hR
  by_cases hlen : l.length = m.length
  · have HLn := hid13 hlen
    have HU' : Hid (m = [] ∨ ∃ b off, au = some ⟨b, off, none⟩ ∧ ∀ j r, m[j]? = some r → RnAt w b (off + j * 4) r) := HU
    rw [← hlen]
    clear hlen HU
    go_enter Try.func87, Try.ntmps87
    go_wp2_with fail
    go_loopg [13] l.length (fun g kv wr => ∃ k : Nat, k + g = l.length ∧ kv = .int .i64 (k : Int) ∧ Hid (UptS l m k) ∧ Hid (Below w.heap.size w wr))
    case atStart => exact ⟨0, by omega, rfl, ⟨HLn.out, fun j hj => by omega⟩, Below.refl _ _⟩
    case round =>
      obtain ⟨k, hk, rfl, HUp, hB⟩ := hrel
      by_cases hlt : (k : Int) < (l.length : Int)
      · have hks : k < l.length := by omega
        have hkm : k < m.length := by have := HLn.out; omega
        obtain ⟨b, off, rfl, hc⟩ := HV.out.resolve_left (by rintro rfl; simp at hks)
        obtain ⟨b', off', rfl, hc'⟩ := HU'.out.resolve_left (by rintro rfl; simp at hkm)
        have h1 := List.getElem?_eq_getElem hks
        have h2 := List.getElem?_eq_getElem hkm
        obtain ⟨x0, x1, x2, x3⟩ := (hc k _ h1).below hB.out
        obtain ⟨y0, y1, y2, y3⟩ := (hc' k _ h2).below hB.out
        have hE := fun w => eqRn_run l[k].f l[k].k l[k].n m[k].f m[k].k m[k].n w
        generalize l[k] = r at *
        generalize m[k] = s at *
        have hNo := hid13 (fun h => uptS_no (l := l) (m := m) (k := k) h1 h2 h)
        have hYe := hid13 (fun (h : r = s) => uptS_step HUp.out h1 (by rw [h]; exact h2))
        have mk : IntKind.i64.wrap ((k : Int) + 1) = (k : Int) + 1 := by rw [IntKind.wrap_i64]; omega
        have HK : Hid (k + gk = l.length ∧ k < l.length) := ⟨hk, hks⟩
        have HB2 : Hid (∀ n, Below w.heap.size w (wr.drewN n)) := fun n => below_drewN hB.out n
        clear hc hc' h1 h2 hk
        by_cases hrs : r = s
        · rw [(eqRn_iff r s).mpr hrs] at hE
          have HY := hid13 (hYe.out hrs)
          clear hrs hNo hYe
          go_wp2_with fail
          go_quiet (fail)
          go_wp2
          go_roundg (gk - 1)
          case measure => have := HK.out; omega
          case rel => exact ⟨k + 1, by have := HK.out; omega, rfl, HY, HB2.out _⟩
        · have hf : eqRn r s = false := by
            cases e : eqRn r s with
            | false => rfl
            | true => exact absurd ((eqRn_iff r s).mp e) hrs
          rw [hf] at hE
          have HN : Hid (R = false) := by show _ = _; rw [HR.out]; exact hNo.out hrs
          clear hrs hNo hYe hf
          go_wp2_with fail
          go_quiet (fail)
          go_wp2
          go_ret
          exact ⟨by rw [HN.out]; rfl, HB2.out _⟩
      · have HY : Hid (R = true) := by show _ = _; rw [HR.out]; exact uptS_yes HUp.out (by omega)
        clear hk
        go_wp2
        go_ret
        exact ⟨by rw [HY.out]; rfl, hB.out⟩
  · have HN : Hid (R = false) := by show _ = _; rw [HR.out]; exact sqR_no (fun e => hlen (by rw [e]))
    have hne : ((l.length : Int) != (m.length : Int)) = true := by simp; omega
    clear hlen
    go_enter Try.func87, Try.ntmps87
    go_wp2
    go_ret
    exact ⟨by rw [HN.out]; rfl, Below.refl _ _⟩
def sqD (d e : Nde) : Bool := (d.b == e.b) && sqR d.r e.r
theorem sqD_iff (d e : Nde) : sqD d e = true ↔ d = e := by
  obtain ⟨a, b⟩ := d
  obtain ⟨a', b'⟩ := e
  unfold sqD
  rw [Bool.and_eq_true, sqR_iff]
  simp
set_option maxHeartbeats 4000000 in
theorem sameS12 (b b' : Int) (v u : Value) (l m : List Rn) (w : World) (hv : RwN w v l) (hu : RwN w u m) (hl : l.length ≤ 1000000000) :
    Calls Try.prog 74 #[.agg #[.int .i64 b, v], .agg #[.int .i64 b', u]] w fun e w' => e = .returned (.bool (sqD ⟨b, l⟩ ⟨b', m⟩)) ∧ Below w.heap.size w w' := by
  have hb := bl2 w (.cells #[.int .i64 b, v] 57) (.cells #[.int .i64 b', u] 57)
  have KE := equalRn_any v u l m _ (hv.below hb) (hu.below hb) hl
  have HB := hid13 hb
  obtain ⟨ao, c, hvf, -⟩ := id hv
  obtain ⟨au, c2, huf, -⟩ := id hu
  subst hvf huf
  unfold sqD
  dsimp only
  clear hv hu hb
  by_cases h1 : b = b'
  · subst h1
    have e1 : (b == b) = true := by simp
    rw [e1, Bool.true_and]
    go_enter Try.func74, Try.ntmps74
    go_wp2_with fail
    refine KE.mono ?_
    rintro e w2 ⟨rfl, hb2⟩
    have HB2 := hid13 (keepb hb2 HB.out)
    clear KE hb2
    go_wp2
    go_ret
    exact ⟨by first | rfl | simp, HB2.out⟩
  · have e1 : (b == b') = false := by simpa using h1
    rw [e1, Bool.false_and]
    clear h1 KE
    go_enter Try.func74, Try.ntmps74
    go_wp2
    go_ret
    exact ⟨by first | rfl | simp, HB.out⟩
end Go.Proofs.Ytdpfdlkaickkiaa
namespace Go.Proofs.Ytdpfdlkaickkiaa
open Go.RowKit Go.Shelf
set_option linter.unusedSimpArgs false
set_option linter.unusedVariables false

def kV (a b c : Int) : Value := .agg #[.int .i64 a, .int .i64 b, .int .u64 c]
theorem Try.wide12 : (match Try.prog.underlying 120 with | some (.array _ _) | some (.struct _) => true | _ => false) = true := by kernel_rfl
set_option maxRecDepth 100000 in
theorem Try.klaw12 : Go.WideMaps.KeyLaw Try.prog 120 := deep_law_laid (by kernel_rfl) (m := 2) (by omega) (of_decide_eq_true (by kernel_rfl)) (by kernel_rfl) Try.wide12
def KyOk (a b c : Int) : Prop := (-9223372036854775808 ≤ a ∧ a ≤ 9223372036854775807) ∧ (-9223372036854775808 ≤ b ∧ b ≤ 9223372036854775807) ∧ 0 ≤ c ∧ c ≤ 18446744073709551615
theorem key12 {a b c : Int} (h : KyOk a b c) : ∃ l, keyOf Try.prog 120 (kV a b c) = some l := by
  have h1 : Try.prog.keyType 120 = true := by kernel_rfl
  have h2 : (kV a b c).formed Try.prog 120 = true := by
    have : Try.prog.cellsOf 120 = 3 := by kernel_rfl
    simp [Value.formed, Try.underlying120, this, kV]
  have h3 : Try.prog.cellsOf 120 = 3 := by kernel_rfl
  have h4 : Try.prog.cellsOf 3 = 1 := by kernel_rfl
  have h5 : Try.prog.cellsOf 42 = 1 := by kernel_rfl
  obtain ⟨n, hn⟩ : ∃ n, Try.prog.types.size = n + 1 := ⟨Try.prog.types.size - 1, by have : 0 < Try.prog.types.size := of_decide_eq_true (by kernel_rfl); omega⟩
  have w1 : (Lit.int .i64 a).wf = true := WalkArith.wf_i64 h.1
  have w2 : (Lit.int .i64 b).wf = true := WalkArith.wf_i64 h.2.1
  have w3 : (Lit.int .u64 c).wf = true := WalkArith.wf_u64 h.2.2
  unfold keyOf
  rw [Try.underlying120, h1, h2, hn]
  simp [kV, Value.cells, Program.keyLits, Try.underlying120, Try.underlying3, Try.underlying42, h3, h4, h5, w1, w2, w3]
section
variable {W : World} {M : Nat} {es : Array MapEntry} {clock : Nat} {key : Value}
def KysOk (es : Array MapEntry) : Prop := ∀ e ∈ es.toList, ∃ l, keyOf Try.prog 120 e.key = some l
theorem zero12 (w : World) : (zeroValue 61).run Try.prog w = .ok (.slice none 0 0) w := by kernel_rfl
theorem find12 (hk : KysOk es) {l : Lit} (hkey : keyOf Try.prog 120 key = some l) (w : World) :
    ((Instr.findKey 120 key es.toList).run Try.prog w = .ok none w ∧ ∀ e ∈ es.toList, e.key ≠ key) ∨ ∃ (j : Nat) (e : MapEntry), (Instr.findKey 120 key es.toList).run Try.prog w = .ok (some (j, e.val)) w ∧ es.toList[j]? = some e ∧ e.key = key := Try.klaw12.find w hkey es.toList hk
theorem look12 (hb : W.heap[M]? = some (.map es clock)) (hk : KysOk es) {l : Lit} (hkey : keyOf Try.prog 120 key = some l) :
    ((Instr.lookup 62 (.map (some M)) key false).run Try.prog W = .ok (.slice none 0 0) W ∧ ∀ e ∈ es.toList, e.key ≠ key) ∨ ∃ (j : Nat) (e : MapEntry), (Instr.lookup 62 (.map (some M)) key false).run Try.prog W = .ok e.val W ∧ es.toList[j]? = some e ∧ e.key = key := by
  rcases find12 hk hkey W with ⟨h1, h2⟩ | ⟨j, e, h1, h2, h3⟩
  · exact .inl ⟨by simp [Instr.lookup, run_underlying Try.underlying62, MapKept.run_getObj_map hb, Try.klaw12.check W _ hkey, h1, zero12, Result.andThen], h2⟩
  · exact .inr ⟨j, e, by simp [Instr.lookup, run_underlying Try.underlying62, MapKept.run_getObj_map hb, Try.klaw12.check W _ hkey, h1, Result.andThen], h2, h3⟩
theorem ent12_new (hb : W.heap[M]? = some (.map es clock)) (hk : KysOk es) {l : Lit} (hkey : keyOf Try.prog 120 key = some l) (hno : ∀ e ∈ es.toList, e.key ≠ key) :
    (Instr.mapEntry 62 (.map (some M)) key).run Try.prog W = .ok (.tuple #[.slice none 0 0, .int .i64 (clock : Int)]) (W.putObj M (.map (es.push ⟨key, .slice none 0 0, clock⟩) (clock + 1))) := by
  rcases find12 hk hkey W with ⟨h1, h2⟩ | ⟨j, e, h1, h2, h3⟩
  · simp [Instr.mapEntry, run_underlying Try.underlying62, MapKept.run_getObj_map hb, Try.klaw12.check W false hkey, h1, zero12, MapKept.run_setObj_map _ hb, Result.andThen, World.putObj, goInt]
  · exact absurd h3 (hno e (List.mem_of_getElem? h2))
theorem ent12_old (hb : W.heap[M]? = some (.map es clock)) (hk : KysOk es) (hs : (es.toList.map (·.key)).Nodup) {l : Lit} (hkey : keyOf Try.prog 120 key = some l) {j : Nat} {e : MapEntry} (hj : es.toList[j]? = some e) (he : e.key = key) :
    (Instr.mapEntry 62 (.map (some M)) key).run Try.prog W = .ok (.tuple #[e.val, .int .i64 (e.born : Int)]) (W.putObj M (.map es clock)) := by
  rcases find12 hk hkey W with ⟨h1, h2⟩ | ⟨i, f, h1, h2, h3⟩
  · exact absurd he (h2 e (List.mem_of_getElem? hj))
  · have hij : i = j := by
      have a1 : (es.toList.map (·.key))[i]? = some key := by rw [List.getElem?_map, h2]; simp [h3]
      have a2 : (es.toList.map (·.key))[j]? = some key := by rw [List.getElem?_map, hj]; simp [he]
      obtain ⟨b1, c1⟩ := List.getElem?_eq_some_iff.mp a1
      obtain ⟨b2, c2⟩ := List.getElem?_eq_some_iff.mp a2
      rcases Nat.lt_trichotomy i j with q | q | q
      · exact absurd (c1.trans c2.symm) (List.pairwise_iff_getElem.mp hs i j b1 b2 q)
      · exact q
      · exact absurd (c2.trans c1.symm) (List.pairwise_iff_getElem.mp hs j i b2 b1 q)
    subst hij
    rw [h2] at hj
    have hfe := Option.some.inj hj
    subst hfe
    have hj' : es[i]? = some f := by simpa using h2
    have hsame : es.modify i (fun x => { x with key := key }) = es := by
      apply Array.ext'
      rw [Array.toList_modify, Go.ChangeMaps.modify_eq_set _ _ _ _ h2]
      have : ({ f with key := key } : MapEntry) = f := by rw [← h3]
      rw [this, Go.WideElems.set_self _ _ _ h2]
    simp [Instr.mapEntry, run_underlying Try.underlying62, MapKept.run_getObj_map hb, Try.klaw12.check W false hkey, h1, hj', he, Try.klaw12.stays W hkey, hsame, MapKept.run_setObj_map _ hb, Result.andThen, World.putObj, goInt]
theorem sto12 (hb : W.heap[M]? = some (.map es clock)) (hn : (es.toList.map (·.born)).Nodup) {j : Nat} {e : MapEntry} (hj : es.toList[j]? = some e) (val : Value) :
    (Instr.entryStore 62 (.map (some M)) (.int .i64 (e.born : Int)) val).run Try.prog W = .ok () (W.putObj M (.map (es.modify j fun x => { x with val := val }) clock)) := by
  have hidx : es.findIdx? (fun x => ((x.born : Nat) : Int) == ((e.born : Nat) : Int)) = some j := by
    rw [Go.WideElems.findIdx_arr]
    exact Go.WideElems.findIdx_born hn hj
  simp [Instr.entryStore, MapKept.run_getObj_map hb, asInt, asIntOf, hidx, MapKept.run_setObj_map _ hb, Result.andThen, World.putObj]
end
end Go.Proofs.Ytdpfdlkaickkiaa
namespace Go.Proofs.Ytdpfdlkaickkiaa
open Go.RowKit
set_option linter.unusedSimpArgs false
set_option linter.unusedVariables false
attribute [local go_sem] Oper.semAt_some

def fwN : List Nde → Nat
  | [] => 0
  | d :: L => 1 + d.r.length + fwN L
theorem fw_take (L : List Nde) (k : Nat) (h : k < L.length) : fwN (L.take (k + 1)) = fwN (L.take k) + 1 + L[k].r.length := by
  induction L generalizing k with
  | nil => simp at h
  | cons d L ih =>
    cases k with
    | zero => simp [fwN]
    | succ k =>
      simp only [List.take_succ_cons, fwN, List.getElem_cons_succ]
      rw [ih k (by simpa using h)]
      omega
theorem fw_mem {L : List Nde} {d : Nde} (h : d ∈ L) : d.r.length < fwN L := by
  induction L with
  | nil => cases h
  | cons e L ih =>
    rcases List.mem_cons.mp h with h | h
    · subst h; simp only [fwN]; omega
    · have := ih h; simp only [fwN]; omega
theorem fw_le {L : List Nde} {K : Nat} (hr : ∀ d ∈ L, d.r.length ≤ K) : ∀ k, fwN (L.take k) ≤ k * (K + 1)
  | 0 => by simp [fwN]
  | k + 1 => by
    have ih := fw_le hr k
    rw [Nat.succ_mul]
    by_cases h : k < L.length
    · rw [fw_take L k h]
      have := hr _ (List.getElem_mem h)
      omega
    · rw [List.take_of_length_le (by omega)]
      rw [List.take_of_length_le (by omega)] at ih
      omega
def fewB (L : List Nde) : Bool := decide (L.length < 500) && decide (fwN (L.take 500) < 5000)
theorem few_ok {L : List Nde} (h : fewB L = true) : L.length < 500 ∧ ∀ d ∈ L, d.r.length < 5000 := by
  unfold fewB at h
  simp only [Bool.and_eq_true, decide_eq_true_eq] at h
  rw [List.take_of_length_le (by omega)] at h
  exact ⟨h.1, fun d hd => by have := fw_mem hd; omega⟩
set_option maxRecDepth 20000 in
set_option maxHeartbeats 4000000 in
theorem few_any (v : Value) (L : List Nde) (w : World) (hv : RwD w v L) (hl : L.length ≤ 140737488355328) (hr : ∀ d ∈ L, d.r.length ≤ 140737488355328) :
    Calls Try.prog 10 #[v] w fun e w' => e = .returned (.bool (fewB L)) ∧ w' = w := by
  obtain ⟨ao, c, rfl, hc, hrow⟩ := hv
  have HC := hid13 hrow
  have HL : Hid (L.length ≤ 140737488355328 ∧ ∀ d ∈ L, d.r.length ≤ 140737488355328) := ⟨hl, hr⟩
  have hl' : (L.length : Int) ≤ 140737488355328 := by omega
  have HF : Hid (fewB L = (decide (L.length < 500) && decide (fwN (L.take 500) < 5000))) := rfl
  generalize fewB L = fb at *
  clear hr hrow hl
  go_enter Try.func10, Try.ntmps10
  go_wp2_with fail
  go_loopw [3, 4] (fun nv kv wr => ∃ k n : Nat, k ≤ L.length ∧ k ≤ 500 ∧ nv = .int .i64 n ∧ kv = .int .i64 k ∧ Hid (n = fwN (L.take k)) ∧ wr = w) (fun _ kv _ => L.length - (intOf kv).toNat)
  case atStart => exact ⟨0, 0, by omega, by omega, rfl, rfl, (rfl : 0 = fwN (L.take 0)), rfl⟩
  case round =>
    obtain ⟨k, n, hk, hk5, rfl, rfl, hN, rfl⟩ := hrel
    have hnb : n ≤ 70368744177664500 := by
      have h1 := fw_le HL.out.2 k
      rw [← hN.out] at h1
      have h2 := Nat.mul_le_mul_right (140737488355328 + 1) hk5
      exact Nat.le_trans h1 (Nat.le_trans h2 (by decide))
    by_cases hlt : (k : Int) < (L.length : Int)
    · by_cases h5 : (k : Int) < 500
      · have hks : k < L.length := by omega
        obtain ⟨b, off, rfl, hcell⟩ := HC.out.resolve_left (by rintro rfl; simp at hks)
        obtain ⟨vr, x0, x1, hR⟩ := hcell k _ (List.getElem?_eq_getElem hks)
        have hrk := HL.out.2 _ (List.getElem_mem hks)
        obtain ⟨vo, vc, hvr, -, -⟩ := hR
        subst hvr
        have ht := fw_take L k hks
        generalize L[k].r.length = m at *
        have m1 : wrap64 ((n : Int) + 1) = (n : Int) + 1 := by unfold wrap64; omega
        have m2 : wrap64 ((n : Int) + 1 + (m : Int)) = (n : Int) + 1 + (m : Int) := by unfold wrap64; omega
        have m3 : wrap64 ((k : Int) + 1) = (k : Int) + 1 := by unfold wrap64; omega
        clear hcell x0
        go_wp2
        go_roundw
        case rel => exact ⟨k + 1, n + 1 + m, by omega, by omega, by push_cast; rfl, by push_cast; rfl, (by rw [ht, ← hN.out] : n + 1 + m = fwN (L.take (k + 1))), trivial⟩
        case measure => first | (simp [intOf]; omega) | (unfold intOf; simp; omega)
      · have hl5 : ¬ (L.length : Int) < 500 := by omega
        have hfb : fb = false := by rw [HF.out]; simp; omega
        subst hfb
        clear HC
        go_wp2
        go_ret
        exact ⟨rfl, rfl⟩
    · have hke : k = L.length := by omega
      subst hke
      by_cases h5 : (L.length : Int) < 500
      · have h5' : L.length < 500 := by omega
        have hF2 := HF.out
        have hN2 := hN.out
        rw [List.take_of_length_le (Nat.le_refl _)] at hN2
        rw [List.take_of_length_le (Nat.le_of_lt h5'), ← hN2] at hF2
        by_cases hn : (n : Int) < 5000
        · have hfb : fb = true := by rw [hF2]; simp; omega
          subst hfb
          clear HC hF2 hN2 HF hN
          go_wp2
          go_ret
          exact ⟨rfl, rfl⟩
        · have hfb : fb = false := by rw [hF2]; simp; omega
          subst hfb
          clear HC hF2 hN2 HF hN
          go_wp2
          go_ret
          exact ⟨rfl, rfl⟩
      · have hfb : fb = false := by rw [HF.out]; simp; omega
        subst hfb
        clear HC
        go_wp2
        go_ret
        exact ⟨rfl, rfl⟩
end Go.Proofs.Ytdpfdlkaickkiaa
namespace Go.Proofs.Ytdpfdlkaickkiaa
open Go.RowKit Go.Shelf
set_option linter.unusedSimpArgs false
set_option linter.unusedVariables false
attribute [local go_sem] Oper.semAt_some

theorem chk_ok {F : Int} {L : List Nde} (h : (chkM F L).2 = 0) : NdsOk L ∧ usedB L = true ∧ fam F = true ∧ chkM F L = deepR F L := by
  unfold chkM at h ⊢
  by_cases hf : fam F = true
  · rw [if_pos hf] at h ⊢
    by_cases hn : nodesE L = 0
    · rw [if_pos hn] at h ⊢
      by_cases hu : usedB L = true
      · rw [if_pos hu]
        exact ⟨nodes_ok hn, hu, hf, rfl⟩
      · rw [if_neg hu] at h; cases h
    · rw [if_neg hn] at h; exact absurd h hn
  · rw [if_neg hf] at h; cases h
end Go.Proofs.Ytdpfdlkaickkiaa
namespace Go.Proofs.Ytdpfdlkaickkiaa
open Go.RowKit Go.Shelf
set_option linter.unusedSimpArgs false
set_option linter.unusedVariables false
attribute [local go_sem] Oper.semAt_some

end Go.Proofs.Ytdpfdlkaickkiaa
namespace Go.Proofs.Ytdpfdlkaickkiaa
open Go.RowKit Go.Shelf
set_option linter.unusedSimpArgs false
set_option linter.unusedVariables false
attribute [local go_sem] Oper.semAt_some

section
variable {w W W' : World} {vo : Value} {Bx Gp N n : Nat} {o P : List Int}
end
end Go.Proofs.Ytdpfdlkaickkiaa
namespace Go.Proofs.Ytdpfdlkaickkiaa
set_option linter.unusedSimpArgs false
set_option linter.unusedVariables false

def Met (s : DfS) (x : Nat) : Prop := s.1.getD x false = true
theorem met_set {s : DfS} {n : Nat} (hn : n < s.1.length) (z : Nat) : Met (s.1.set n true, s.2) z ↔ (z = n ∨ Met s z) := by
  unfold Met
  dsimp only
  rw [List.getD_eq_getElem?_getD, List.getD_eq_getElem?_getD, List.getElem?_set]
  by_cases h : n = z
  · subst h; simp [hn]
  · rw [if_neg h]
    constructor
    · exact .inr
    · rintro (q | q)
      · exact absurd q.symm h
      · exact q
structure DInv (L : List Nde) (s : DfS) : Prop where
  len : s.1.length = L.length
  dm : ∀ x ∈ s.2, 0 ≤ x ∧ Met s x.toNat
  nd : s.2.Nodup
  cl : ∀ A x B, s.2 = A ++ x :: B → ∀ d r, L[x.toNat]? = some d → r ∈ d.r → r.k = true → r.n ∈ A
theorem met_rep {N : Nat} {z : Nat} : ¬ Met (List.replicate N false, []) z := by
  unfold Met
  dsimp only
  rw [List.getD_eq_getElem?_getD, List.getElem?_replicate]
  split <;> simp
theorem us_fold {N : Nat} : ∀ (ks : List Int) (s : List Bool × Nat) (z : Nat), (ks.foldl usK s).1.getD z false = true → s.1.getD z false = true ∨ ∃ k ∈ ks, k.toNat = z
  | [], s, z, h => .inl h
  | k :: ks, s, z, h => by
    rw [List.foldl_cons] at h
    rcases us_fold (N := N) ks _ z h with q | ⟨j, hj, e⟩
    · unfold usK at q
      split at q
      · exact .inl q
      · dsimp only at q
        rw [List.getD_eq_getElem?_getD, List.getElem?_set] at q
        by_cases c : k.toNat = z
        · exact .inr ⟨k, List.mem_cons_self .., c⟩
        · rw [if_neg c, ← List.getD_eq_getElem?_getD] at q
          exact .inl q
    · exact .inr ⟨j, List.mem_cons_of_mem _ hj, e⟩
theorem us_all {N : Nat} : ∀ (L : List Nde) (s : List Bool × Nat) (z : Nat), (L.foldl usN s).1.getD z false = true → s.1.getD z false = true ∨ ∃ d ∈ L, ∃ k ∈ kidL d.r, k.toNat = z
  | [], s, z, h => .inl h
  | d :: L, s, z, h => by
    rw [List.foldl_cons] at h
    rcases us_all (N := N) L _ z h with q | ⟨e, he, k, hk, hz⟩
    · rcases us_fold (N := N) (kidL d.r) s z q with q | ⟨k, hk, hz⟩
      · exact .inl q
      · exact .inr ⟨d, List.mem_cons_self .., k, hk, hz⟩
    · exact .inr ⟨e, List.mem_cons_of_mem _ he, k, hk, hz⟩
theorem used_lead {L : List Nde} (ok : NdsOk L) (hu : usedB L = true) (z : Nat) (h0 : 0 < z) (hz : z < L.length) : ∃ n d r, L[n]? = some d ∧ r ∈ d.r ∧ r.k = true ∧ r.n = (z : Int) ∧ n < z := by
  obtain ⟨a1, a2⟩ := us0_so L.length ok.1
  obtain ⟨b1, b2⟩ := usL_so L (us0 L.length) a1 (fun d hd k hk => by rw [a2]; have := ok.kids d hd k hk; omega)
  unfold usedB at hu
  have hc : (L.foldl usN (us0 L.length)).1.count true = (L.foldl usN (us0 L.length)).1.length := by
    have h1 : (L.foldl usN (us0 L.length)).2 = L.length := by simpa using hu
    have h2 : (L.foldl usN (us0 L.length)).2 = (L.foldl usN (us0 L.length)).1.count true := b1
    rw [b2, a2, ← h2, h1]
  have hall := List.count_eq_length.mp hc
  have hzl : z < (L.foldl usN (us0 L.length)).1.length := by rw [b2, a2]; exact hz
  have hg : (L.foldl usN (us0 L.length)).1.getD z false = true := by
    rw [List.getD_eq_getElem?_getD, List.getElem?_eq_getElem hzl]
    exact (hall _ (List.getElem_mem hzl)).symm
  rcases us_all (N := L.length) L _ z hg with q | ⟨d, hd, k, hk, e⟩
  · unfold us0 at q
    dsimp only at q
    rw [List.getD_eq_getElem?_getD, List.getElem?_set_ne (by omega), List.getElem?_replicate] at q
    split at q <;> simp at q
  · obtain ⟨n, hn⟩ := List.getElem?_of_mem hd
    obtain ⟨r, h1, h2, h3⟩ := mem_kidL hk
    obtain ⟨c1, c2, c3⟩ := ok.lead hn h1 h2
    exact ⟨n, d, r, hn, h1, h2, by omega, by omega⟩
end Go.Proofs.Ytdpfdlkaickkiaa
namespace Go.Proofs.Ytdpfdlkaickkiaa
open Go.RowKit Go.Shelf
set_option linter.unusedSimpArgs false
set_option linter.unusedVariables false
attribute [local go_sem] Oper.semAt_some

end Go.Proofs.Ytdpfdlkaickkiaa
namespace Go.Proofs.Ytdpfdlkaickkiaa
open Go.RowKit Go.Shelf
set_option linter.unusedSimpArgs false
set_option linter.unusedVariables false
attribute [local go_sem] Oper.semAt_some

theorem AtI.grown {W W' : World} {B : Nat} {o n : Int} {v : Value} {row : Option Nat} (h : AtI W B o n v) (hg : W.grownBy W' row) (hne : some B ≠ row) : AtI W' B o n v := ⟨hg.cell h.1 hne, hg.cell h.2.1 hne, hg.cell h.2.2 hne⟩
end Go.Proofs.Ytdpfdlkaickkiaa
namespace Go.Proofs.Ytdpfdlkaickkiaa
open Go.RowKit Go.Shelf
set_option linter.unusedSimpArgs false
set_option linter.unusedVariables false
attribute [local go_sem] Oper.semAt_some

section
variable {w W W' : World} {C G cap : Nat} {code : List Nat} {vp : Value} {P : List Int}
end
end Go.Proofs.Ytdpfdlkaickkiaa
namespace Go.Proofs.Ytdpfdlkaickkiaa
open Go.RowKit Go.Shelf
set_option linter.unusedSimpArgs false
set_option linter.unusedVariables false
attribute [local go_sem] Oper.semAt_some

theorem KX.cell {X : Nat → Prop} {V U : World} (h : KX X V U) {z o : Nat} {u : Value} (hz : ¬ X z) (hc : V.cell? ⟨z, o, none⟩ = some u) : U.cell? ⟨z, o, none⟩ = some u := (World.cell?_of_block (a := ⟨z, o, none⟩) (h.2 z (cell_in hc) hz)).trans hc
end Go.Proofs.Ytdpfdlkaickkiaa
namespace Go.Proofs.Ytdpfdlkaickkiaa
open Go.RowKit Go.Shelf
set_option linter.unusedSimpArgs false
set_option linter.unusedVariables false
attribute [local go_sem] Oper.semAt_some

end Go.Proofs.Ytdpfdlkaickkiaa
namespace Go.Proofs.Ytdpfdlkaickkiaa
set_option linter.unusedSimpArgs false
set_option linter.unusedVariables false

theorem cmp_neg {x y : BitVec 128} : cmpZ x y < 0 ↔ x.toNat < y.toNat := by
  unfold cmpZ
  by_cases h : x.toNat < y.toNat
  · rw [if_pos h]; simp [h]
  · rw [if_neg h]
    constructor
    · intro q; split at q <;> omega
    · intro q; exact absurd q h
theorem adj_rise : ∀ (l : List Rn), adjG l = true → ∀ (i j : Nat) (a b : Rn), i < j → l[i]? = some a → l[j]? = some b → a.f.toNat < b.f.toNat
  | [], _, i, j, a, b, _, ha, _ => by simp at ha
  | [x], _, i, j, a, b, hij, ha, hb => by
    cases j with
    | zero => omega
    | succ j => simp at hb
  | x :: y :: t, h, i, j, a, b, hij, ha, hb => by
    unfold adjG at h
    simp only [Bool.and_eq_true, decide_eq_true_eq] at h
    have hxy := cmp_neg.1 h.1.1
    cases j with
    | zero => omega
    | succ j =>
      have hb' : (y :: t)[j]? = some b := by simpa using hb
      cases i with
      | zero =>
        simp at ha
        subst ha
        cases j with
        | zero => simp at hb'; subst hb'; exact hxy
        | succ j =>
          have := adj_rise (y :: t) h.2 0 (j + 1) y b (by omega) rfl hb'
          omega
      | succ i => exact adj_rise (y :: t) h.2 i j a b (by omega) (by simpa using ha) hb'
structure IoOk (d : Nde) : Prop where
  ne : d.r ≠ []
  z : ∀ r, d.r[0]? = some r → r.f = 0#128
  rise : ∀ (i j : Nat) (a b : Rn), i < j → d.r[i]? = some a → d.r[j]? = some b → a.f.toNat < b.f.toNat
  lt : ∀ r ∈ d.r, r.f.toNat < 2 ^ d.b.toNat
theorem io_ok {d : Nde} (h : ioB d = true) : IoOk d := by
  obtain ⟨b, l⟩ := d
  have hne : l ≠ [] := by rintro rfl; rw [io_nil] at h; cases h
  have hp := List.length_pos_iff.mpr hne
  rw [io_one b l hne] at h
  simp only [Bool.and_eq_true, beq_iff_eq] at h
  obtain ⟨h1, h2, h3⟩ := h
  have hr := adj_rise l h2
  have hlast : (l[l.length - 1]'(by omega)).f.toNat < 2 ^ b.toNat := by
    have e := congrArg BitVec.toNat h3
    rw [BitVec.toNat_ushiftRight, Nat.shiftRight_eq_div_pow] at e
    have e0 : (0#128).toNat = 0 := rfl
    rw [e0] at e
    rcases Nat.div_eq_zero_iff.mp e with q | q
    · have : (0 : Nat) < 2 ^ b.toNat := Nat.two_pow_pos _
      omega
    · exact q
  refine ⟨hne, fun r hr0 => ?_, hr, fun r hrm => ?_⟩
  · dsimp only at hr0
    rw [List.getElem?_eq_getElem hp] at hr0
    cases hr0
    exact h1
  · dsimp only at hrm ⊢
    obtain ⟨i, hi⟩ := List.getElem?_of_mem hrm
    have hil := (List.getElem?_eq_some_iff.mp hi).1
    by_cases hc : i = l.length - 1
    · subst hc
      rw [List.getElem?_eq_getElem hil] at hi
      cases hi
      exact hlast
    · have := hr i (l.length - 1) r _ (by omega) hi (List.getElem?_eq_getElem (by omega))
      omega
end Go.Proofs.Ytdpfdlkaickkiaa
namespace Go.Proofs.Ytdpfdlkaickkiaa
open Go.RowKit Go.Shelf
set_option linter.unusedSimpArgs false
set_option linter.unusedVariables false
attribute [local go_sem] Oper.semAt_some

end Go.Proofs.Ytdpfdlkaickkiaa
namespace Go.Proofs.Ytdpfdlkaickkiaa
open Go.RowKit Go.Shelf
set_option linter.unusedSimpArgs false
set_option linter.unusedVariables false
attribute [local go_sem] Oper.semAt_some

end Go.Proofs.Ytdpfdlkaickkiaa
