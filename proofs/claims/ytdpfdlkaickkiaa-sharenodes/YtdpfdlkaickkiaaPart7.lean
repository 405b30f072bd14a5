/-
  Part 7 of the proof: 8 texts, one behind the other.
-/
import Derived.Test.YtdpfdlkaickkiaaPart6
import Derived.Test.YtdpfdlkaickkiaaPart1
namespace Go.Proofs.Ytdpfdlkaickkiaa
open Go.RowKit
set_option linter.unusedSimpArgs false
set_option linter.unusedVariables false

def ocB (b : Nat) : Nat := b % 2 + b / 2 % 2 + b / 4 % 2 + b / 8 % 2 + b / 16 % 2 + b / 32 % 2 + b / 64 % 2 + b / 128 % 2
def bm (f : Nat → Nat) : Nat → Nat → Nat
  | 0, _ => 0
  | k + 1, x => f (x % 256) + 256 * bm f k (x / 256)
def mm (m : Nat) : Nat → Nat
  | 0 => 0
  | k + 1 => m + 256 * mm m k
def oc : Nat → Nat → Nat
  | 0, _ => 0
  | k + 1, x => ocB (x % 256) + oc k (x / 256)
def f1 (b : Nat) : Nat := ((b / 2) &&& 85) + (b &&& 85)
def f2 (b : Nat) : Nat := ((b / 4) &&& 51) + (b &&& 51)
theorem and_split (a m M : Nat) (hm : m < 256) : a &&& (m + 256 * M) = ((a % 256) &&& m) + 256 * ((a / 256) &&& M) := by
  have h1 : (a &&& (m + 256 * M)) % 2 ^ 8 = (a % 2 ^ 8) &&& ((m + 256 * M) % 2 ^ 8) := Nat.and_mod_two_pow
  have h2 : (a &&& (m + 256 * M)) / 2 ^ 8 = (a / 2 ^ 8) &&& ((m + 256 * M) / 2 ^ 8) := Nat.and_div_two_pow
  have e1 : (m + 256 * M) % 2 ^ 8 = m := by omega
  have e2 : (m + 256 * M) / 2 ^ 8 = M := by omega
  rw [e1] at h1
  rw [e2] at h2
  have e3 : (2 : Nat) ^ 8 = 256 := by decide
  rw [e3] at h1 h2
  have := Nat.div_add_mod (a &&& (m + 256 * M)) 256
  omega
set_option maxRecDepth 100000 in
theorem b1 : ∀ b : Fin 256, ∀ c : Fin 2, (b.val / 2 + 128 * c.val) &&& 85 = (b.val / 2) &&& 85 := by decide +kernel
theorem b2 : ∀ b : Fin 256, ∀ c : Fin 4, (b.val / 4 + 64 * c.val) &&& 51 = (b.val / 4) &&& 51 := by decide +kernel
theorem b3 : ∀ b : Fin 256, ∀ c : Fin 5, (f2 (f1 b.val) / 16 + 16 * c.val + f2 (f1 b.val)) &&& 15 = ocB b.val := by decide +kernel
theorem b4 : ∀ b : Fin 256, f1 b.val < 256 ∧ f2 (f1 b.val) % 16 ≤ 4 ∧ f2 (f1 b.val) / 16 ≤ 4 ∧ ocB b.val ≤ 8 ∧ ocB (255 - b.val) + ocB b.val = 8 := by decide +kernel
theorem l1 (k : Nat) : ∀ x, ((x / 2) &&& mm 85 k) + (x &&& mm 85 k) = bm f1 k x := by
  induction k with
  | zero => intro x; simp [mm, bm]
  | succ k ih =>
    intro x
    simp only [mm, bm]
    rw [and_split _ 85 _ (by decide), and_split _ 85 _ (by decide)]
    have e1 : (x / 2) % 256 = (x % 256) / 2 + 128 * (x / 256 % 2) := by omega
    have e2 : x / 2 / 256 = x / 256 / 2 := by omega
    have hb := b1 ⟨x % 256, by omega⟩ ⟨x / 256 % 2, by omega⟩
    have := ih (x / 256)
    rw [e1, e2]
    simp only at hb
    rw [hb]
    have hf : f1 (x % 256) = ((x % 256 / 2) &&& 85) + ((x % 256) &&& 85) := rfl
    omega
theorem l2 (k : Nat) : ∀ x, ((x / 4) &&& mm 51 k) + (x &&& mm 51 k) = bm f2 k x := by
  induction k with
  | zero => intro x; simp [mm, bm]
  | succ k ih =>
    intro x
    simp only [mm, bm]
    rw [and_split _ 51 _ (by decide), and_split _ 51 _ (by decide)]
    have e1 : (x / 4) % 256 = (x % 256) / 4 + 64 * (x / 256 % 4) := by omega
    have e2 : x / 4 / 256 = x / 256 / 4 := by omega
    have hb := b2 ⟨x % 256, by omega⟩ ⟨x / 256 % 4, by omega⟩
    have := ih (x / 256)
    rw [e1, e2]
    simp only at hb
    rw [hb]
    have hf : f2 (x % 256) = ((x % 256 / 4) &&& 51) + ((x % 256) &&& 51) := rfl
    omega
theorem bm_bm (k : Nat) : ∀ x, bm f2 k (bm f1 k x) = bm (fun b => f2 (f1 b)) k x := by
  induction k with
  | zero => intro x; rfl
  | succ k ih =>
    intro x
    have h := (b4 ⟨x % 256, by omega⟩).1
    simp only at h
    simp only [bm]
    have e1 : (f1 (x % 256) + 256 * bm f1 k (x / 256)) % 256 = f1 (x % 256) := by omega
    have e2 : (f1 (x % 256) + 256 * bm f1 k (x / 256)) / 256 = bm f1 k (x / 256) := by omega
    rw [e1, e2, ih]
theorem bm_mod (k : Nat) (x : Nat) : bm (fun b => f2 (f1 b)) k x % 16 ≤ 4 := by
  cases k with
  | zero => simp [bm]
  | succ k =>
    have h := (b4 ⟨x % 256, by omega⟩).2.1
    simp only at h
    simp only [bm]; omega
theorem l3 (k : Nat) : ∀ x, (bm (fun b => f2 (f1 b)) k x / 16 + bm (fun b => f2 (f1 b)) k x) &&& mm 15 k = bm ocB k x := by
  induction k with
  | zero => intro x; simp [mm, bm]
  | succ k ih =>
    intro x
    simp only [mm]
    rw [and_split _ 15 _ (by decide)]
    have hm := bm_mod k (x / 256)
    have h := (b4 ⟨x % 256, by omega⟩).2.1
    have h' := (b4 ⟨x % 256, by omega⟩).2.2.1
    have hb := b3 ⟨x % 256, by omega⟩ ⟨bm (fun b => f2 (f1 b)) k (x / 256) % 16, by omega⟩
    have := ih (x / 256)
    simp only [bm] at *
    generalize bm (fun b => f2 (f1 b)) k (x / 256) = y at *
    generalize f2 (f1 (x % 256)) = g at *
    have e1 : ((g + 256 * y) / 16 + (g + 256 * y)) % 256 = g / 16 + 16 * (y % 16) + g := by omega
    have e2 : ((g + 256 * y) / 16 + (g + 256 * y)) / 256 = y / 16 + y := by omega
    rw [e1, e2, hb, this]
theorem key (n a B z : Nat) (h : a < n) (e : z = a + n * B) : z / n = B := by
  rw [e, Nat.add_mul_div_left _ _ (by omega), Nat.div_eq_of_lt h]; omega
end Go.Proofs.Ytdpfdlkaickkiaa
namespace Go.Proofs.Ytdpfdlkaickkiaa
open Go.RowKit
set_option linter.unusedSimpArgs false
set_option linter.unusedVariables false

theorem wrapu_nat (n : Nat) (h : n < 18446744073709551616) : IntKind.u64.wrap (n : Int) = (n : Int) := wrap_nat n h
theorem m85 : mm 85 8 = 6148914691236517205 := by decide
theorem m51 : mm 51 8 = 3689348814741910323 := by decide
theorem m15 : mm 15 8 = 1085102592571150095 := by decide
theorem bm_lt (f : Nat → Nat) (hf : ∀ b : Fin 256, f b.val < 256) (k : Nat) : ∀ x, bm f k x < 256 ^ k := by
  induction k with
  | zero => intro x; simp [bm]
  | succ k ih =>
    intro x; have := ih (x / 256); have h := hf ⟨x % 256, by omega⟩; simp only at h
    simp only [bm]; rw [Nat.pow_succ]; omega
theorem bm1_lt (x : Nat) : bm f1 8 x < 18446744073709551616 := bm_lt f1 (fun b => (b4 b).1) 8 x
theorem bm2_lt (x : Nat) : bm (fun b => f2 (f1 b)) 8 x < 4 * 256 ^ 8 / 8 := by
  have h : ∀ k x, bm (fun b => f2 (f1 b)) k x ≤ 68 * mm 1 k := by
    intro k; induction k with
    | zero => intro x; simp [bm, mm]
    | succ k ih =>
      intro x; have := ih (x / 256); have h1 := (b4 ⟨x % 256, by omega⟩).2.1; have h2 := (b4 ⟨x % 256, by omega⟩).2.2.1; simp only at h1 h2
      simp only [bm, mm]; omega
  have := h 8 x
  have e : mm 1 8 = 72340172838076673 := by decide
  rw [e] at this; omega
theorem s1 (x : Nat) (h : x < 18446744073709551616) : IntKind.u64.wrap (bits .and .u64 ((x : Int) / 2) 6148914691236517205 + bits .and .u64 (x : Int) 6148914691236517205) = ((bm f1 8 x : Nat) : Int) := by
  have e : ((x : Int) / 2) = ((x / 2 : Nat) : Int) := by omega
  have a1 : bits .and .u64 ((x / 2 : Nat) : Int) 6148914691236517205 = ((x / 2 &&& 6148914691236517205 : Nat) : Int) := bits_and_u64_nat (x / 2) 6148914691236517205 (by omega) (by decide)
  have a2 : bits .and .u64 (x : Int) 6148914691236517205 = ((x &&& 6148914691236517205 : Nat) : Int) := bits_and_u64_nat x 6148914691236517205 h (by decide)
  have l := l1 8 x
  rw [m85] at l
  rw [e, a1, a2, ← Int.natCast_add, l]
  exact wrapu_nat _ (bm1_lt x)
theorem s2 (x : Nat) : IntKind.u64.wrap (bits .and .u64 (((bm f1 8 x : Nat) : Int) / 4) 3689348814741910323 + bits .and .u64 ((bm f1 8 x : Nat) : Int) 3689348814741910323) = ((bm (fun b => f2 (f1 b)) 8 x : Nat) : Int) := by
  have h := bm1_lt x
  have e : (((bm f1 8 x : Nat) : Int) / 4) = ((bm f1 8 x / 4 : Nat) : Int) := by omega
  have a1 : bits .and .u64 ((bm f1 8 x / 4 : Nat) : Int) 3689348814741910323 = ((bm f1 8 x / 4 &&& 3689348814741910323 : Nat) : Int) := bits_and_u64_nat (bm f1 8 x / 4) 3689348814741910323 (by omega) (by decide)
  have a2 : bits .and .u64 ((bm f1 8 x : Nat) : Int) 3689348814741910323 = ((bm f1 8 x &&& 3689348814741910323 : Nat) : Int) := bits_and_u64_nat (bm f1 8 x) 3689348814741910323 h (by decide)
  have l := l2 8 (bm f1 8 x)
  rw [m51, bm_bm] at l
  rw [e, a1, a2, ← Int.natCast_add, l]
  have := bm2_lt x
  exact wrapu_nat _ (by omega)
theorem s3 (x : Nat) : bits .and .u64 (IntKind.u64.wrap (((bm (fun b => f2 (f1 b)) 8 x : Nat) : Int) / 16 + ((bm (fun b => f2 (f1 b)) 8 x : Nat) : Int))) 1085102592571150095 = ((bm ocB 8 x : Nat) : Int) := by
  have h := bm2_lt x
  have l := l3 8 x
  rw [m15] at l
  generalize bm (fun b => f2 (f1 b)) 8 x = y at *
  have e : ((y : Int) / 16 + (y : Int)) = ((y / 16 + y : Nat) : Int) := by omega
  have a1 : bits .and .u64 ((y / 16 + y : Nat) : Int) 1085102592571150095 = (((y / 16 + y) &&& 1085102592571150095 : Nat) : Int) := bits_and_u64_nat (y / 16 + y) 1085102592571150095 (by omega) (by decide)
  rw [e, wrapu_nat _ (by omega), a1, l]

end Go.Proofs.Ytdpfdlkaickkiaa
namespace Go.Proofs.Ytdpfdlkaickkiaa
open Go.RowKit
set_option linter.unusedSimpArgs false
set_option linter.unusedVariables false

end Go.Proofs.Ytdpfdlkaickkiaa
namespace Go.Proofs.Ytdpfdlkaickkiaa
open Go.RowKit
set_option linter.unusedSimpArgs false
set_option linter.unusedVariables false

def checkE (F : Int) (x : BitVec 128) (n : Int) : Int := if fam F = true then (if n < 0 then 13 else if F < n then 13 else if (cutW x n == x) = true then 0 else 14) else 11
set_option maxHeartbeats 1000000 in
theorem pcheck_any (F : Int) (x : BitVec 128) (n : Int) (w : World) :
    Calls Try.prog 40 #[.int .i64 F, .agg #[.int .u64 (hI x), .int .u64 (lI x), .int .i64 n]] w fun e w' => e = .returned (.int .i64 (checkE F x n)) ∧ Below w.heap.size w w' := by
  have KL := fun w => alast_any F w
  unfold lastV lastE at KL
  unfold checkE
  cases h : fam F
  · rw [if_neg (by simp)]
    rw [h, if_neg (by simp), if_neg (by simp), hI_zero, lI_zero] at KL
    clear h
    go_enter Try.func40, Try.ntmps40
    go_wp2_with fail
    refine (KL _).mono ?_
    rintro e w1 ⟨rfl, hb1⟩
    have kB := keepb hb1 (bl1 w _)
    clear hb1 KL
    go_wp2
    go_ret
    exact ⟨rfl, kB.alloc (by have := kB.size; omega) _⟩
  · rw [if_pos rfl]
    rw [h, if_pos rfl, if_pos rfl] at KL
    clear h
    generalize maskW F = m at *
    have KC := fun w => cut_any x n w
    revert KC
    generalize cutW x n = c
    intro KC
    have hnn : (n == n) = true := by simp
    by_cases h0 : n < 0
    · rw [if_pos h0]
      go_enter Try.func40, Try.ntmps40
      go_wp2_with fail
      refine (KL _).mono ?_
      rintro e w1 ⟨rfl, hb1⟩
      have kB := keepb hb1 (bl1 w _)
      obtain ⟨p0, p1, p2, -, -, -⟩ := ((atp_new w w.heap.size x n 48 rfl).below hb1).below (bl1 _ (.cells #[.int .u64 (hI m), .int .u64 (lI m)] 44))
      clear hb1 KL
      go_wp2
      go_ret
      exact ⟨rfl, kB.alloc (by have := kB.size; omega) _⟩
    by_cases h1 : F < n
    · rw [if_neg h0, if_pos h1]
      go_enter Try.func40, Try.ntmps40
      go_wp2_with fail
      refine (KL _).mono ?_
      rintro e w1 ⟨rfl, hb1⟩
      have kB := keepb hb1 (bl1 w _)
      obtain ⟨p0, p1, p2, -, -, -⟩ := ((atp_new w w.heap.size x n 48 rfl).below hb1).below (bl1 _ (.cells #[.int .u64 (hI m), .int .u64 (lI m)] 44))
      clear hb1 KL
      go_wp2
      go_ret
      exact ⟨rfl, kB.alloc (by have := kB.size; omega) _⟩
    rw [if_neg h0, if_neg h1]
    rcases eqw c x with ⟨q1, q2, q3⟩ | ⟨q1, q3⟩ | ⟨q1, q2, q3⟩
    all_goals
      rw [q3]
      first | rw [if_pos rfl] | rw [if_neg (by simp)]
      clear q3
      go_enter Try.func40, Try.ntmps40
      go_wp2_with fail
      refine (KL _).mono ?_
      rintro e w1 ⟨rfl, hb1⟩
      have kB := keepb hb1 (bl1 w _)
      obtain ⟨p0, p1, p2, -, -, -⟩ := ((atp_new w w.heap.size x n 48 rfl).below hb1).below (bl1 _ (.cells #[.int .u64 (hI m), .int .u64 (lI m)] 44))
      have kB2 := (kB.alloc (by have := kB.size; omega) (.cells #[.int .u64 (hI m), .int .u64 (lI m)] 44)).drew
      clear hb1 KL kB
      go_wp2_with fail
      go_region_held3 (fun w' => w'.cell? ⟨w.heap.size, 0, none⟩ = some (.int .u64 (hI x)) ∧ w'.cell? ⟨w.heap.size, 1, none⟩ = some (.int .u64 (lI x)) ∧ w'.cell? ⟨w.heap.size, 2, none⟩ = some (.int .i64 n) ∧ Below w.heap.size w w')
        (first
          | (obtain ⟨k1, k2, k3, k9⟩ := ‹_ ∧ _›; exact ⟨keepc hb3 k1, keepc hb3 k2, keepc hb3 k3, keepb hb3 k9⟩)
          | exact ⟨p0, p1, p2, kB2⟩)
        (first | (go_at_call 64; refine (KC _).mono ?_; rintro e w3 ⟨rfl, hb3⟩))
      obtain ⟨-, -, -, kB3⟩ := ‹_ ∧ _›
      go_wp2
      go_ret
      exact ⟨rfl, kB3⟩

end Go.Proofs.Ytdpfdlkaickkiaa
namespace Go.Proofs.Ytdpfdlkaickkiaa
open Go.RowKit
set_option linter.unusedSimpArgs false
set_option linter.unusedVariables false
attribute [local go_sem] Oper.semAt_some

theorem nds_all (N : Int) : ∀ (L : List Nde) (i : Nat), ndsE N i L = 0 → ∀ (k : Nat) (d : Nde), L[k]? = some d → ndeE d ((i + k : Nat) : Int) N = 0
  | [], i, h, k, d, hd => by simp at hd
  | e :: L, i, h, k, d, hd => by
    unfold ndsE at h
    by_cases h0 : ndeE e i N = 0
    · rw [if_pos h0] at h
      cases k with
      | zero => simp at hd; subst hd; simpa using h0
      | succ k =>
        have := nds_all N L (i + 1) h k d (by simpa using hd)
        rwa [show i + 1 + k = i + (k + 1) by omega] at this
    · rw [if_neg h0] at h
      exact absurd h h0
theorem runs_all (i N : Int) : ∀ (l : List Rn), runsE i N l = 0 → ∀ r ∈ l, runE r i N = 0
  | [], h, r, hr => by cases hr
  | e :: l, h, r, hr => by
    unfold runsE at h
    by_cases h0 : runE e i N = 0
    · rw [if_pos h0] at h
      rcases List.mem_cons.mp hr with rfl | q
      · exact h0
      · exact runs_all i N l h r q
    · rw [if_neg h0] at h
      exact absurd h h0
structure NdOk (d : Nde) (i N : Int) : Prop where
  b0 : 0 ≤ d.b
  b1 : d.b ≤ 128
  bz : d.b = 0 → N ≤ 1
  io : ioB d = true
  hop : ∀ r ∈ d.r, r.k = false → 0 ≤ r.n ∧ r.n ≤ 65535
  kid : ∀ r ∈ d.r, r.k = true → i < r.n ∧ r.n < N
theorem nd_ok {d : Nde} {i N : Int} (h : ndeE d i N = 0) : NdOk d i N := by
  unfold ndeE at h
  by_cases h1 : argB d.b N = true
  · rw [if_pos h1] at h
    by_cases h2 : ioB d = true
    · rw [if_pos h2] at h
      unfold argB bitsB at h1
      simp at h1
      have hr := runs_all i N d.r h
      refine ⟨h1.1.1, h1.1.2, fun q => ?_, h2, fun r hr' hk => ?_, fun r hr' hk => ?_⟩
      · rcases h1.2 with z | z
        · exact absurd q z
        · omega
      · have := hr r hr'
        unfold runE at this
        rw [hk] at this
        simp at this
        omega
      · have := hr r hr'
        unfold runE at this
        rw [hk] at this
        simp at this
        omega
    · rw [if_neg h2] at h; omega
  · rw [if_neg h1] at h; omega
theorem mem_kidL {l : List Rn} {x : Int} (h : x ∈ kidL l) : ∃ r ∈ l, r.k = true ∧ r.n = x := by
  unfold kidL at h
  obtain ⟨r, hr, rfl⟩ := List.mem_map.mp h
  obtain ⟨h1, h2⟩ := List.mem_filter.mp hr
  exact ⟨r, h1, by simpa using h2, rfl⟩
def NdsOk (L : List Nde) : Prop := 0 < L.length ∧ ∀ (k : Nat) (d : Nde), L[k]? = some d → NdOk d k L.length
theorem nodes_ok {L : List Nde} (h : nodesE L = 0) : NdsOk L := by
  unfold nodesE at h
  by_cases h0 : L = []
  · rw [if_pos h0] at h; omega
  · rw [if_neg h0] at h
    refine ⟨List.length_pos_iff.mpr h0, fun k d hd => ?_⟩
    have := nd_ok (nds_all _ L 0 h k d hd)
    rwa [Nat.zero_add] at this
theorem NdsOk.bits {L : List Nde} (h : NdsOk L) : ∀ d ∈ L, 0 ≤ d.b ∧ d.b ≤ 128 := fun d hd => by
  obtain ⟨k, hk⟩ := List.getElem?_of_mem hd
  exact ⟨(h.2 k d hk).b0, (h.2 k d hk).b1⟩
theorem NdsOk.kids {L : List Nde} (h : NdsOk L) : ∀ d ∈ L, ∀ x ∈ kidL d.r, 0 ≤ x ∧ x < L.length := fun d hd x hx => by
  obtain ⟨k, hk⟩ := List.getElem?_of_mem hd
  obtain ⟨r, h1, h2, rfl⟩ := mem_kidL hx
  have := (h.2 k d hk).kid r h1 h2
  omega
def chkM (F : Int) (L : List Nde) : Int × Int := if fam F = true then (if nodesE L = 0 then (if usedB L = true then deepR F L else (0, 31)) else (0, nodesE L)) else (0, 11)
theorem check_zero16 (F : Int) : checkE F 0#128 0 = if fam F = true then 0 else 11 := by
  unfold checkE
  by_cases h : fam F = true
  · rw [if_pos h, if_pos h]
    have : F = 32 ∨ F = 128 := fam_ways F h
    rw [if_neg (by omega), if_neg (by omega)]
    have : (cutW 0#128 0 == 0#128) = true := by decide
    rw [if_pos this]
  · rw [if_neg h, if_neg h]
set_option maxRecDepth 20000 in
set_option maxHeartbeats 4000000 in
theorem mcheck_any (F : Int) (v : Value) (L : List Nde) (w : World) (hv : RwD w v L) (hl : L.length ≤ 1000000000) (hr : ∀ d ∈ L, d.r.length ≤ 1000000000) :
    Calls Try.prog 23 #[.int .i64 F, v] w fun e w' => e = .returned (.tuple #[.int .i64 (chkM F L).1, .int .i64 (chkM F L).2]) ∧ Below w.heap.size w w' := by
  have KP := fun w => pcheck_any F 0#128 0 w
  rw [hI_zero, lI_zero, check_zero16 F] at KP
  have KN := fun w h => checkNodes_any v L w h hl hr
  have HV := hid13 hv
  unfold chkM
  by_cases hf : fam F = true
  · rw [if_pos hf]
    rw [if_pos hf] at KP
    have HF : Hid (F ≤ 128) := hid13 (by rcases fam_ways F hf with rfl | rfl <;> decide)
    clear hf
    by_cases h0 : nodesE L = 0
    · rw [if_pos h0]
      rw [h0] at KN
      have HOk := hid13 (nodes_ok h0)
      have KU := fun w h => allUsed_any v L w h HOk.out.1 hl hr HOk.out.kids
      have KD := fun w h => deepest_any F v L w HF.out h HOk.out.1 hl hr HOk.out.bits HOk.out.kids
      clear h0 hr hl hv
      generalize usedB L = t at *
      generalize deepR F L = dd at *
      obtain ⟨d1, d2⟩ := dd
      dsimp only at KD
      go_enter Try.func23, Try.ntmps23
      go_wp2_with fail
      refine (KP _).mono ?_
      rintro e w1 ⟨rfl, hb1⟩
      have HV1 := hid13 (HV.out.below hb1)
      have HB1 := hid13 hb1
      have KN1 := KN _ HV1.out
      clear hb1 KP KN HV
      go_wp2_with fail
      refine KN1.mono ?_
      rintro e w2 ⟨rfl, hb2⟩
      have HV2 := hid13 (HV1.out.below hb2)
      have HB2 := hid13 (keepb hb2 HB1.out)
      have KU2 := KU _ HV2.out
      clear hb2 KN1 HV1 HB1 KU
      go_wp2_with fail
      refine KU2.mono ?_
      rintro e w3 ⟨rfl, hb3⟩
      have HV3 := hid13 (HV2.out.below hb3)
      have HB3 := hid13 (keepb hb3 HB2.out)
      have KD3 := KD _ HV3.out
      clear hb3 KU2 HV2 HB2 KD
      cases t with
      | false =>
        clear KD3
        go_wp2
        exact bodyPost_ret (v := .tuple #[.int .i64 0, .int .i64 31]) (by simp [results, Try.results23, go_sem]) rfl ⟨rfl, HB3.out⟩
      | true =>
        go_wp2_with fail
        refine KD3.mono ?_
        rintro e w4 ⟨rfl, hb4⟩
        have HB4 := hid13 (keepb hb4 HB3.out)
        clear hb4 KD3 HV3 HB3
        go_wp2
        exact bodyPost_ret (v := .tuple #[.int .i64 d1, .int .i64 d2]) (by simp [results, Try.results23, go_sem]) rfl ⟨rfl, HB4.out⟩
    · rw [if_neg h0]
      have hn : (nodesE L != 0) = true := by simpa using h0
      clear hr hl hv
      generalize nodesE L = ee at *
      go_enter Try.func23, Try.ntmps23
      go_wp2_with fail
      refine (KP _).mono ?_
      rintro e w1 ⟨rfl, hb1⟩
      have HV1 := hid13 (HV.out.below hb1)
      have HB1 := hid13 hb1
      have KN1 := KN _ HV1.out
      clear hb1 KP KN HV
      go_wp2_with fail
      refine KN1.mono ?_
      rintro e w2 ⟨rfl, hb2⟩
      have HB2 := hid13 (keepb hb2 HB1.out)
      clear hb2 KN1 HV1 HB1
      go_wp2
      exact bodyPost_ret (v := .tuple #[.int .i64 0, .int .i64 ee]) (by simp [results, Try.results23, go_sem]) rfl ⟨rfl, HB2.out⟩
  · rw [if_neg hf]
    rw [if_neg hf] at KP
    clear hf hr hl hv KN
    go_enter Try.func23, Try.ntmps23
    go_wp2_with fail
    refine (KP _).mono ?_
    rintro e w1 ⟨rfl, hb1⟩
    have HB1 := hid13 hb1
    clear hb1 KP HV
    go_wp2
    exact bodyPost_ret (v := .tuple #[.int .i64 0, .int .i64 11]) (by simp [results, Try.results23, go_sem]) rfl ⟨rfl, HB1.out⟩
end Go.Proofs.Ytdpfdlkaickkiaa
namespace Go.Proofs.Ytdpfdlkaickkiaa
open Go.RowKit Go.Shelf
set_option linter.unusedSimpArgs false
set_option linter.unusedVariables false
attribute [local go_sem] Oper.semAt_some

def plcL (l : List Rn) : List (Int × Rn) := l.mapIdx fun i r => ((i : Int), r)
theorem plc_len (l : List Rn) : (plcL l).length = l.length := by unfold plcL; simp
theorem plc_at (l : List Rn) (j : Nat) (r : Rn) (h : l[j]? = some r) : (plcL l)[j]? = some ((j : Int), r) := by unfold plcL; rw [List.getElem?_mapIdx, h]; rfl
theorem plc_snd (l : List Rn) : (plcL l).map (·.2) = l := by
  apply List.ext_getElem?
  intro i
  unfold plcL
  rw [List.getElem?_map, List.getElem?_mapIdx]
  cases l[i]? <;> rfl
theorem plc_step (l : List Rn) (j : Nat) (r : Rn) (h : l[j]? = some r) : ((plcL l).drop (j + 1)).reverse ++ [((j : Int), r)] = ((plcL l).drop j).reverse := by
  have hj := plc_at l j r h
  obtain ⟨hlt, he⟩ := List.getElem?_eq_some_iff.mp hj
  conv => rhs; rw [List.drop_eq_getElem_cons hlt]
  rw [List.reverse_cons, he]
def encB (x : Int × Rn) : Array Value := #[.int .i64 x.1, rnV x.2]
structure BwM (Z : Nat → Prop) (A : Nat) (ao : Option Addr) (c : Nat) (l : List Rn) (W : World) : Prop where
  a : W.cell? ⟨A, 0, none⟩ = some (.slice ao l.length c)
  za : Z A
  r : RwN W (.slice ao l.length c) l
  zr : l ≠ [] → ∀ ad, ao = some ad → Z ad.block
theorem BwM.kz {Z : Nat → Prop} {A : Nat} {ao : Option Addr} {c : Nat} {l : List Rn} {W W' : World} (h : BwM Z A ao c l W) (g : KZ Z W W') : BwM Z A ao c l W' := by
  refine ⟨kz_cell g h.za h.a, h.za, ?_, h.zr⟩
  obtain ⟨ao', c', e, hc, hr⟩ := h.r
  injection e with e1 e2 e3
  subst e1 e3
  refine ⟨ao, c, rfl, hc, ?_⟩
  rcases hr with hr | ⟨b, off, e, hr⟩
  · exact .inl hr
  · exact .inr ⟨b, off, e, fun j x hj => rn_kz (hr j x hj) g (h.zr (by rintro rfl; cases hj) _ e)⟩
theorem back_any (ao : Option Addr) (n c : Nat) (w : World) :
    Calls Try.prog 68 #[.slice ao n c] w fun e w' => e = .returned (.func (.func 84) #[] #[.pointer (some ⟨w.heap.size, 0, none⟩)]) ∧ w' = w.alloc (.cells #[.slice ao n c] 55) := by
  have hmf : ∀ (fn : Fn) (first cap : Array Value) (w : World), (Instr.makeFunc fn first cap).run Try.prog w = .ok (.func fn first cap) w := fun _ _ _ _ => rfl
  go_enter Try.func68, Try.ntmps68
  go_wp2
  go_ret
  exact ⟨rfl, rfl⟩
set_option maxRecDepth 20000 in
set_option maxHeartbeats 16000000 in
theorem back1_any (n : Nat) (Z : Nat → Prop) (A : Nat) (ao : Option Addr) (c : Nat) (l : List Rn) (hl : l.length ≤ 1000000000) (Bd : Nat) (w : World) (hM : BwM Z A ao c l w) :
    SeqX n Try.prog 84 #[.pointer (some ⟨A, 0, none⟩)] encB (KZ Z) (fun ys => ys = (plcL l).reverse) (fun pre => pre <+: (plcL l).reverse) Bd w := by
  intro L J Jx W hW hB hJ hJx hY h0
  have HM := hid13 (hM.kz (kz_below hW))
  have HJ := hid13 hJ
  have HY := hid13 hY
  have H0 := hid13 h0
  have hmi : (l.length : Int) ≤ 1000000000 := by omega
  have HL : Hid (l.length ≤ 1000000000) := hl
  have a0 := HM.out.a
  have w0 : IntKind.i64.wrap ((l.length : Int) - 1) = (l.length : Int) - 1 := by rw [IntKind.wrap_i64]; omega
  clear hJ hJx hY h0 hM
  refine callsIn_of_wp Try.func84 rfl trivial ?_ rfl
  simp only [Try.ntmps84, List.size_toArray, List.length_cons, List.length_nil, Nat.reduceAdd, Nat.reduceSub, Array.replicate_succ, Array.replicate_zero, List.push_toArray, List.append_toArray, List.nil_append, List.cons_append]
  gi_wp2
  gi_loopw [3] (fun x3 wr => ∃ (j : Nat), j ≤ l.length ∧ x3 = .int .i64 ((j : Int) - 1) ∧ Hid (J ((plcL l).drop j).reverse wr) ∧ Hid (BwM Z A ao c l wr)) (fun x3 wr => (intOf13 x3 + 1).toNat)
  case atStart => exact ⟨l.length, Nat.le_refl _, rfl, hid13 (by rw [← plc_len l, List.drop_length]; exact H0.out), HM⟩
  case round =>
    clear H0 HM a0 w0
    obtain ⟨j, hj, rfl, HJw, HMw⟩ := hrel
    cases j with
    | zero =>
      have HE : Hid (J (plcL l).reverse wr) := by have := HJw.out; rw [List.drop_zero] at this; exact this
      have h9 : ¬ (0 : Int) ≤ ((0 : Nat) : Int) - 1 := by omega
      clear HJw HMw
      gi_wp2
      go_end0
      first | exact ⟨⟨_, rfl⟩, .inl ⟨_, rfl, HE.out⟩⟩ | exact ⟨⟨_, rfl⟩, .inl HE.out⟩
    | succ j =>
      have hlt : j < l.length := by omega
      have hli : (j : Int) < (l.length : Int) := by omega
      have e1 : ((j + 1 : Nat) : Int) - 1 = (j : Int) := by omega
      rw [e1]
      obtain ⟨r, hr⟩ : ∃ r, l[j]? = some r := ⟨l[j], by simp [hlt]⟩
      obtain ⟨bb, off, hao, hcell⟩ : ∃ b off, ao = some ⟨b, off, none⟩ ∧ ∀ j r, l[j]? = some r → RnAt wr b (off + j * 4) r := by
        obtain ⟨ao', c', e, hc, hr⟩ := HMw.out.r
        injection e with e1 e2 e3
        subst e1
        rcases hr with h | h
        · rw [h] at hlt; simp at hlt
        · exact h
      subst hao
      obtain ⟨r0, r1, r2, r3⟩ := hcell j r hr
      have a0 := HMw.out.a
      have HT := hid13 (plc_step l j r hr)
      have HPx : Hid (((plcL l).drop (j + 1)).reverse ++ [((j : Int), r)] <+: (plcL l).reverse) := hid13 (by
        rw [plc_step l j r hr]
        refine ⟨((plcL l).take j).reverse, ?_⟩
        rw [← List.reverse_append, List.take_append_drop])
      obtain ⟨fn, tmps, assign, body, hy, hR⟩ := HY.out _ _ wr HJw.out HPx.out
      dsimp only [encB, rnV] at hy
      have HK : Hid (j < l.length ∧ l.length ≤ 1000000000) := ⟨hlt, hl⟩
      have mj : IntKind.i64.wrap ((j : Int) - 1) = (j : Int) - 1 := by rw [IntKind.wrap_i64]; omega
      clear hr hcell e1
      gi_wp2
      refine ⟨fun q => (by cases q), hR.mono ?_⟩
      rintro e W4 (⟨rfl, hJ4, hk4⟩ | ⟨rfl, hx4, -⟩)
      · rw [HT.out] at hJ4
        have HM4 := hid13 (HMw.out.kz hk4)
        have HJ4 := hid13 hJ4
        clear hJ4 hk4 hy hR HMw HJw r0 r1 r2 r3 a0
        gi_wp2
        go_roundw
        case rel => exact ⟨j, by have := HK.out; omega, rfl, HJ4, HM4⟩
        case measure =>
          have := HK.out
          first | (simp [intOf13]; done) | (simp [intOf13]; omega) | (unfold intOf13; simp; omega)
      · have HX4 := hid13 hx4
        clear hx4 hy hR HMw HJw r0 r1 r2 r3 a0
        gi_wp2
        exact bodyPost_ret (v := .tuple #[]) (by simp [results, Try.results84]) rfl ⟨⟨_, rfl⟩, .inr ⟨_, HPx.out, HX4.out⟩⟩
abbrev DfS := List Bool × List Int
def stpR (go : Nat → DfS → DfS) (s : DfS) (r : Rn) : DfS := if r.k && !(s.1.getD r.n.toNat false) then go r.n.toNat s else s
def dfs (L : List Nde) : Nat → Nat → DfS → DfS
  | 0, _, s => s
  | f + 1, n, s => let t := ((L.getD n ⟨0, []⟩).r.reverse).foldl (stpR (dfs L f)) (s.1.set n true, s.2); (t.1, t.2 ++ [(n : Int)])
theorem dfs_succ (L : List Nde) (f n : Nat) (s : DfS) (d : Nde) (h : L[n]? = some d) : dfs L (f + 1) n s = (((d.r.reverse).foldl (stpR (dfs L f)) (s.1.set n true, s.2)).1, ((d.r.reverse).foldl (stpR (dfs L f)) (s.1.set n true, s.2)).2 ++ [(n : Int)]) := by
  unfold dfs
  rw [List.getD_eq_getElem?_getD, h]; rfl
theorem stp_keep {P : DfS → Prop} {go : Nat → DfS → DfS} {s : DfS} {r : Rn} (h : P s) (hg : ∀ n s, r.k = true → r.n.toNat = n → s.1.getD n false = false → P s → P (go n s)) : P (stpR go s r) := by
  unfold stpR
  split
  · rename_i q
    simp only [Bool.and_eq_true, Bool.not_eq_true'] at q
    exact hg _ s q.1 rfl q.2 h
  · exact h
theorem stps_keep {P : DfS → Prop} {go : Nat → DfS → DfS} : ∀ (l : List Rn) (s : DfS), P s → (∀ r ∈ l, ∀ n s, r.k = true → r.n.toNat = n → s.1.getD n false = false → P s → P (go n s)) → P (l.foldl (stpR go) s)
  | [], s, h, _ => h
  | r :: l, s, h, hg => stps_keep l _ (stp_keep h (hg r (List.mem_cons_self ..))) (fun r' hr' => hg r' (List.mem_cons_of_mem _ hr'))
def CntD (N c : Nat) (s : DfS) : Prop := s.1.length = N ∧ s.1.count true = s.2.length + c
theorem cnt_set16 {s : DfS} {N c n : Nat} (h : CntD N c s) (hn : n < N) (hf : s.1.getD n false = false) : CntD N (c + 1) (s.1.set n true, s.2) := by
  refine ⟨by simp [h.1], ?_⟩
  have hn' : n < s.1.length := by rw [h.1]; exact hn
  dsimp only
  rw [List.count_set hn', h.2]
  rw [List.getD_eq_getElem?_getD, List.getElem?_eq_getElem hn'] at hf
  simp only [Option.getD_some] at hf
  simp [hf]; omega
theorem NdsOk.lead {L : List Nde} (h : NdsOk L) {n : Nat} {d : Nde} (hd : L[n]? = some d) {r : Rn} (hr : r ∈ d.r) (hk : r.k = true) : n < r.n.toNat ∧ r.n.toNat < L.length ∧ r.n = (r.n.toNat : Int) := by
  have := (h.2 n d hd).kid r hr hk
  omega
end Go.Proofs.Ytdpfdlkaickkiaa
namespace Go.Proofs.Ytdpfdlkaickkiaa
open Go.RowKit Go.Shelf
set_option linter.unusedSimpArgs false
set_option linter.unusedVariables false
attribute [local go_sem] Oper.semAt_some

def DfX (w : World) (z : Nat) : Prop := z = w.heap.size + 1 ∨ z = w.heap.size + 1 + 1 + 1 ∨ z = w.heap.size + 1 + 1 + 1 + 1
section
variable {w W W' : World} {v : Value} {N : Nat} {s : DfS}
theorem own_16 {W W' : World} {row : Option Nat} (hg : W.grownBy W' row) (hr : ∀ r, row = some r → ∃ o : Obj, W.heap[r]? = some o ∧ o.isCells = false) {base e size n : Nat} {v : Value} {xs : List Value} (h : W.ownsRow base e size v n xs) : W'.ownsRow base e size v n xs := by
  refine h.kept hg ?_
  cases hv : v.ownBlock with
  | none => exact .inl rfl
  | some z =>
    refine .inr fun e => ?_
    obtain ⟨o, h1, h2⟩ := hr z e.symm
    obtain ⟨cs, T, fr, h3⟩ := own_cells14 h hv
    rw [h3] at h1
    cases h1
    cases h2
theorem own_far16 {W : World} {base e size n : Nat} {v : Value} {xs : List Value} (h : W.ownsRow base e size v n xs) {B o : Nat} (u : Value) (hv : v.ownBlock ≠ some B) : (W.setCell ⟨B, o, none⟩ u).ownsRow base e size v n xs := by
  refine ⟨h.1, ?_⟩
  rcases h.2 with h1 | ⟨g, cap, cur, e, h1, h2, h3⟩
  · exact .inl h1
  · refine .inr ⟨g, cap, cur, e, h1, (far_16 ?_).trans h2, h3⟩
    rintro rfl
    exact hv (by rw [e]; rfl)
end
theorem Try.infoN16 : (Try.prog.info? 3).map (fun i => (i.zero, i.size, i.bytes)) = some (some (.int .i64 0), 1, 8) := by kernel_rfl
theorem arr37b (t : Array Value) (h : t.size = 37) : ∃ u : Nat → Value, (∀ i, u i = t.getD i undef) ∧ t = #[u 0, u 1, u 2, u 3, u 4, u 5, u 6, u 7, u 8, u 9, u 10, u 11, u 12, u 13, u 14, u 15, u 16, u 17, u 18, u 19, u 20, u 21, u 22, u 23, u 24, u 25, u 26, u 27, u 28, u 29, u 30, u 31, u 32, u 33, u 34, u 35, u 36] := by
  refine ⟨fun i => t.getD i undef, fun _ => rfl, ?_⟩
  obtain ⟨l⟩ := t
  have h' : l.length = 37 := h
  have e : l = (List.range 37).map (fun i => (⟨l⟩ : Array Value).getD i undef) := by
    apply List.ext_getElem
    · simp [h']
    · intro i h1 h2
      simp [Array.getD, h1]
  have e2 : (List.range 37).map (fun i => (⟨l⟩ : Array Value).getD i undef) = [(⟨l⟩ : Array Value).getD 0 undef, (⟨l⟩ : Array Value).getD 1 undef, (⟨l⟩ : Array Value).getD 2 undef, (⟨l⟩ : Array Value).getD 3 undef, (⟨l⟩ : Array Value).getD 4 undef, (⟨l⟩ : Array Value).getD 5 undef, (⟨l⟩ : Array Value).getD 6 undef, (⟨l⟩ : Array Value).getD 7 undef, (⟨l⟩ : Array Value).getD 8 undef, (⟨l⟩ : Array Value).getD 9 undef, (⟨l⟩ : Array Value).getD 10 undef, (⟨l⟩ : Array Value).getD 11 undef, (⟨l⟩ : Array Value).getD 12 undef, (⟨l⟩ : Array Value).getD 13 undef, (⟨l⟩ : Array Value).getD 14 undef, (⟨l⟩ : Array Value).getD 15 undef, (⟨l⟩ : Array Value).getD 16 undef, (⟨l⟩ : Array Value).getD 17 undef, (⟨l⟩ : Array Value).getD 18 undef, (⟨l⟩ : Array Value).getD 19 undef, (⟨l⟩ : Array Value).getD 20 undef, (⟨l⟩ : Array Value).getD 21 undef, (⟨l⟩ : Array Value).getD 22 undef, (⟨l⟩ : Array Value).getD 23 undef, (⟨l⟩ : Array Value).getD 24 undef, (⟨l⟩ : Array Value).getD 25 undef, (⟨l⟩ : Array Value).getD 26 undef, (⟨l⟩ : Array Value).getD 27 undef, (⟨l⟩ : Array Value).getD 28 undef, (⟨l⟩ : Array Value).getD 29 undef, (⟨l⟩ : Array Value).getD 30 undef, (⟨l⟩ : Array Value).getD 31 undef, (⟨l⟩ : Array Value).getD 32 undef, (⟨l⟩ : Array Value).getD 33 undef, (⟨l⟩ : Array Value).getD 34 undef, (⟨l⟩ : Array Value).getD 35 undef, (⟨l⟩ : Array Value).getD 36 undef] := rfl
  rw [e2] at e
  exact congrArg _ e
end Go.Proofs.Ytdpfdlkaickkiaa
namespace Go.Proofs.Ytdpfdlkaickkiaa
open Go.RowKit Go.Shelf
set_option linter.unusedSimpArgs false
set_option linter.unusedVariables false
attribute [local go_sem] Oper.semAt_some

def RvI (xs ys : List Int) (i : Nat) : Prop := ys.length = xs.length ∧ ∀ k, k < xs.length → ys[k]? = if k < i ∨ xs.length - i ≤ k then xs[xs.length - 1 - k]? else xs[k]?
theorem rv_end {xs ys : List Int} {i : Nat} (h : RvI xs ys i) (hi : xs.length ≤ 2 * i + 1) : ys = xs.reverse := by
  apply List.ext_getElem?
  intro k
  by_cases hk : k < xs.length
  · rw [h.2 k hk, List.getElem?_reverse hk]
    by_cases hc : k < i ∨ xs.length - i ≤ k
    · rw [if_pos hc]
    · rw [if_neg hc]
      have : xs.length - 1 - k = k := by omega
      rw [this]
  · rw [List.getElem?_eq_none (by rw [h.1]; omega), List.getElem?_eq_none (by simp; omega)]
theorem rv_step {xs ys : List Int} {i : Nat} (h : RvI xs ys i) (hi : 2 * i + 1 < xs.length) (a b : Int) (ha : ys[i]? = some a) (hb : ys[xs.length - 1 - i]? = some b) : RvI xs ((ys.set i b).set (xs.length - 1 - i) a) (i + 1) := by
  refine ⟨by simp [h.1], fun k hk => ?_⟩
  have e1 := h.2 i (by omega)
  have e2 := h.2 (xs.length - 1 - i) (by omega)
  rw [if_neg (by omega)] at e1 e2
  rw [ha] at e1
  rw [hb] at e2
  rw [List.getElem?_set, List.getElem?_set, List.length_set]
  by_cases c1 : xs.length - 1 - i = k
  · subst c1
    rw [if_pos rfl, if_pos (by rw [h.1]; omega), if_pos (by omega), show xs.length - 1 - (xs.length - 1 - i) = i by omega, e1]
  · rw [if_neg c1]
    by_cases c2 : i = k
    · subst c2
      rw [if_pos rfl, if_pos (by rw [h.1]; omega), if_pos (by omega), e2]
    · rw [if_neg c2, h.2 k hk]
      by_cases c3 : k < i ∨ xs.length - i ≤ k
      · rw [if_pos c3, if_pos (by omega)]
      · rw [if_neg c3, if_neg (by omega)]
theorem own_cell16 {W : World} {base e n g cap : Nat} {ys : List Int} (h : W.ownsRow base e 1 (.slice (some ⟨g, 0, none⟩) n cap) n (ys.map cI)) {k : Nat} {a : Int} (hk : ys[k]? = some a) : W.cell? ⟨g, k, none⟩ = some (.int .i64 a) ∧ W.frozen? ⟨g, k, none⟩ = false := by
  constructor
  · have := h.cells (g := g) rfl k (cI a) (by rw [List.getElem?_map, hk]; rfl)
    rwa [addA, Nat.zero_add] at this
  · rcases h.2 with ⟨h1, -⟩ | ⟨g', cap', cur, h1, hb, hg, -⟩
    · cases h1
    · injection h1 with h1 h2 h3
      injection h1 with h1
      injection h1 with h1
      subst h1
      exact fr_16 hg
theorem own_set16 {W : World} {base e n g cap : Nat} {ys : List Int} (h : W.ownsRow base e 1 (.slice (some ⟨g, 0, none⟩) n cap) n (ys.map cI)) (k : Nat) (a : Int) : (W.setCell ⟨g, k, none⟩ (.int .i64 a)).ownsRow base e 1 (.slice (some ⟨g, 0, none⟩) n cap) n ((ys.set k a).map cI) ∧ W.grownBy (W.setCell ⟨g, k, none⟩ (.int .i64 a)) (some g) := by
  constructor
  · have := (h.stored k (.int .i64 a)).1
    rw [List.map_set]
    exact this
  · exact ⟨rfl, rfl, rfl, by simp, fun z _ hz => far_16 (fun e => hz (by rw [e]))⟩
set_option maxRecDepth 20000 in
set_option maxHeartbeats 8000000 in
theorem rev_any (base g cap : Nat) (xs : List Int) (w : World) (hl : xs.length ≤ 1000000000) (ho : w.ownsRow base 3 1 (.slice (some ⟨g, 0, none⟩) xs.length cap) xs.length (xs.map cI)) :
    Calls Try.prog 69 #[.slice (some ⟨g, 0, none⟩) xs.length cap] w fun e w' => e = .returned (.tuple #[]) ∧ w'.ownsRow base 3 1 (.slice (some ⟨g, 0, none⟩) xs.length cap) xs.length (xs.reverse.map cI) ∧ w.grownBy w' (some g) := by
  have HO := hid13 ho
  have HL : Hid (xs.length ≤ 1000000000) := hl
  have w0 : IntKind.i64.wrap ((xs.length : Int) - 1) = (xs.length : Int) - 1 := by rw [IntKind.wrap_i64]; omega
  clear ho
  go_enter Try.func69, Try.ntmps69
  go_wp2_with fail
  go_loopw [2, 3] (fun x2 x3 wr => ∃ (i : Nat) (ys : List Int), x2 = .int .i64 (i : Int) ∧ x3 = .int .i64 ((xs.length : Int) - 1 - i) ∧ Hid (i ≤ xs.length ∧ RvI xs ys i ∧ wr.ownsRow base 3 1 (.slice (some ⟨g, 0, none⟩) xs.length cap) xs.length (ys.map cI) ∧ w.grownBy wr (some g))) (fun x2 x3 wr => xs.length - (intOf x2).toNat)
  case atStart => exact ⟨0, xs, rfl, by simp, hid13 ⟨Nat.zero_le _, ⟨rfl, fun k hk => by rw [if_neg (by omega)]⟩, HO.out, World.grownBy.refl _ _⟩⟩
  case round =>
    clear HO w0
    obtain ⟨i, ys, rfl, rfl, HS⟩ := hrel
    by_cases hlt : 2 * i + 1 < xs.length
    · obtain ⟨j, hj⟩ : ∃ j, j = xs.length - 1 - i := ⟨_, rfl⟩
      have ej : (xs.length : Int) - 1 - (i : Int) = (j : Int) := by omega
      rw [ej]
      have hij : (i : Int) < (j : Int) := by omega
      have hne : i ≠ j := by omega
      have hni : (i : Int) < (xs.length : Int) := by omega
      have hnj : (j : Int) < (xs.length : Int) := by omega
      have hyl : ys.length = xs.length := HS.out.2.1.1
      obtain ⟨a, ha⟩ : ∃ a, ys[i]? = some a := ⟨ys[i]'(by omega), List.getElem?_eq_getElem _⟩
      obtain ⟨b, hb⟩ : ∃ b, ys[j]? = some b := ⟨ys[j]'(by omega), List.getElem?_eq_getElem _⟩
      obtain ⟨c1, f1⟩ := own_cell16 HS.out.2.2.1 ha
      obtain ⟨c2, f2⟩ := own_cell16 HS.out.2.2.1 hb
      have HN : Hid (RvI xs ((ys.set i b).set j a) (i + 1)) := hid13 (by have := rv_step HS.out.2.1 hlt a b ha (by rw [← hj]; exact hb); rwa [← hj] at this)
      have HJ : Hid (i + 1 ≤ xs.length ∧ (j : Int) = (xs.length : Int) - 1 - i) := ⟨by omega, ej.symm⟩
      have mi : IntKind.i64.wrap ((i : Int) + 1) = ((i + 1 : Nat) : Int) := by rw [IntKind.wrap_i64]; have := HL.out; push_cast; omega
      have mj : IntKind.i64.wrap ((j : Int) - 1) = (xs.length : Int) - 1 - ((i + 1 : Nat) : Int) := by rw [IntKind.wrap_i64]; have := HL.out; push_cast; omega
      clear hj ej hyl ha hb hlt
      go_wp2_with fail
      go_region
      have k1 := own_set16 HS.out.2.2.1 i b
      have k2 := own_set16 k1.1 j a
      have HO2 := hid13 (k2.1.drew)
      have HG2 : Hid (w.grownBy ((wr.setCell ⟨g, i, none⟩ (.int .i64 b)).setCell ⟨g, j, none⟩ (.int .i64 a)).drew (some g)) := hid13 (by
        have e1 := HS.out.2.2.2
        exact ⟨e1.os, e1.tape, e1.output, by simpa [World.drew] using e1.size, fun z h1 h2 => (show ((wr.setCell ⟨g, i, none⟩ (.int .i64 b)).setCell ⟨g, j, none⟩ (.int .i64 a)).heap[z]? = _ from (far_16 (fun e => h2 (by rw [e]))).trans ((far_16 (fun e => h2 (by rw [e]))).trans (e1.block z h1 h2)))⟩)
      clear k1 k2 c1 f1 c2 f2 HS
      go_wp2
      go_roundw
      case rel => exact ⟨i + 1, (ys.set i b).set j a, by first | rfl | simp, by first | rfl | simp, hid13 ⟨HJ.out.1, HN.out, HO2.out, HG2.out⟩⟩
      case measure => have := HJ.out.1; first | (simp [intOf]; done) | (simp [intOf]; omega) | (unfold intOf; simp; omega)
    · have hge : ¬ (i : Int) < (xs.length : Int) - 1 - (i : Int) := by omega
      have HE := hid13 (rv_end HS.out.2.1 (by omega))
      clear hlt
      go_wp2
      go_end0
      exact ⟨rfl, by rw [← List.map_reverse, ← HE.out]; exact HS.out.2.2.1, HS.out.2.2.2⟩
theorem storeF_16 {P : Program} {w : World} {a : Addr} {m : Mode} (f : Fn) (x l : Array Value) : (store a (.func f x l) m).run P w = stored P w a (.func f x l) m := run_store P w a _ m rfl
attribute [local go_sem] storeF_16
def ordL (L : List Nde) : List Int := (dfs L L.length 0 (List.replicate L.length false, [])).2.reverse
end Go.Proofs.Ytdpfdlkaickkiaa
