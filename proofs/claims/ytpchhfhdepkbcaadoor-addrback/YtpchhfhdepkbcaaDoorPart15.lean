/-
  Part 15 of the proof: 5 texts, one behind the other.
-/
import Derived.Test.YtpchhfhdepkbcaaDoorPart11
import Derived.Test.YtpchhfhdepkbcaaDoorPart12
import Derived.Test.YtpchhfhdepkbcaaDoorPart13
import Derived.Test.YtpchhfhdepkbcaaDoorPart5
import Derived.Test.YtpchhfhdepkbcaaDoorPart14
import Derived.Test.YtpchhfhdepkbcaaDoorRows
import Derived.ProofKit
import Derived.Lib.SmallJoins
/-
  Plain facts: the reference's Text of the family 32 is read as the address.
-/
namespace Go.Proofs.YtpchhfhdepkbcaaDoor
open Go.RowKit
set_option linter.unusedSimpArgs false
set_option linter.unusedVariables false

theorem four_bits (x : BitVec 128) (h : rightE 32 x = 0) : x.toNat % 79228162514264337593543950336 = 0 := by
  have h2 := (right0 32 x h).2
  have hm : maskW 32 = 340282366841710300949110269838224261120#128 := by decide +kernel
  rw [hm] at h2
  have key : ∀ i, i < 96 → (340282366841710300949110269838224261120#128).getLsbD i = false := by decide +kernel
  have hlow : ∀ i, i < 96 → x.getLsbD i = false := fun i hi => by
    rw [← h2, BitVec.getLsbD_and, key i hi, Bool.and_false]
  have e : x = (x >>> 96) <<< 96 := by
    apply BitVec.eq_of_getLsbD_eq
    intro i hi
    rw [BitVec.getLsbD_shiftLeft, BitVec.getLsbD_ushiftRight]
    by_cases q : i < 96
    · rw [hlow i q]; simp [q]
    · have e1 : decide (i < 96) = false := by simp; omega
      have e2 : decide (i < 128) = true := by simp [hi]
      rw [e1, e2, show 96 + (i - 96) = i by omega]
      simp
  have e2 := congrArg BitVec.toNat e
  rw [BitVec.toNat_shiftLeft, BitVec.toNat_ushiftRight, Nat.shiftRight_eq_div_pow, Nat.shiftLeft_eq] at e2
  have := x.isLt
  omega
theorem four_halves (x : BitVec 128) (h : rightE 32 x = 0) : lI x = 0 ∧ (hI x).toNat % 4294967296 = 0 := by
  have hb := four_bits x h
  have hl := x.isLt
  constructor
  · unfold lI lv
    rw [BitVec.extractLsb'_toNat, Nat.shiftRight_zero]
    omega
  · unfold hI hv
    rw [BitVec.extractLsb'_toNat, Nat.shiftRight_eq_div_pow, Int.toNat_natCast]
    omega
theorem text4_back (x : BitVec 128) (h : rightE 32 x = 0) : rpE 32 (text4 x) = 0 ∧ rpV 32 (text4 x) = x := by
  obtain ⟨hl, hh⟩ := four_halves x h
  have h0 := hI_lo x
  have h1 := hI_up x
  have lt : ∀ k, octN x k < 256 := fun k => by unfold octN; omega
  have ht : text4 x = bL (quadL (octN x 0) (octN x 1) (octN x 2) (octN x 3)) := by
    apply ByteArray.ext
    simp [text4, dotS, bL, quadL, jn]
  have hd := dot_quad (octN x 0) (octN x 1) (octN x 2) (octN x 3) (lt 0) (lt 1) (lt 2) (lt 3)
  rw [← ht] at hd
  have hs : (text4 x).size ≤ 15 := dot_short _ (by rw [hd]; rfl)
  have hv : ((((octN x 0 * 256 + octN x 1) * 256 + octN x 2) * 256 + octN x 3 : Nat) : Int) * 4294967296 = hI x := by
    unfold octN
    rw [show 56 - 8 * 0 = 56 from rfl, show 56 - 8 * 1 = 48 from rfl, show 56 - 8 * 2 = 40 from rfl, show 56 - 8 * 3 = 32 from rfl]
    omega
  have hf : fam 32 = true := by decide
  constructor
  · unfold rpE
    rw [if_neg (by rw [hf]; simp), if_neg (by omega), if_pos rfl, hd]
  · unfold rpV
    rw [if_neg (by rw [hf]; simp; omega), if_pos rfl, hd]
    show mkW _ 0 = x
    rw [hv]
    have := mk_ints x
    rw [hl] at this
    exact this
end Go.Proofs.YtpchhfhdepkbcaaDoor
/-
  Plain facts: which bytes an address's text has, and how many.
-/
namespace Go.Proofs.YtpchhfhdepkbcaaDoor
open Go.RowKit
set_option linter.unusedSimpArgs false
set_option linter.unusedVariables false

def okB (six : Bool) (c : UInt8) : Prop := (48 ≤ c.toNat ∧ c.toNat ≤ 57) ∨ (c.toNat = 46 ∧ six = false) ∨ ((c.toNat = 58 ∨ (97 ≤ c.toNat ∧ c.toNat ≤ 102)) ∧ six = true)
theorem dec_ok : ∀ n : Fin 256, ∀ c ∈ decL n.val, 48 ≤ c.toNat ∧ c.toNat ≤ 57 := by decide +kernel
theorem hexD_ok : ∀ d : Fin 16, (48 ≤ (hexD d.val).toNat ∧ (hexD d.val).toNat ≤ 57) ∨ (97 ≤ (hexD d.val).toNat ∧ (hexD d.val).toNat ≤ 102) := by decide +kernel
theorem fourL_ok (x : BitVec 128) : ∀ k, ∀ c ∈ fourL x k, okB false c := by
  intro k
  induction k with
  | zero => intro c h; cases h
  | succ k ih =>
    intro c h
    unfold fourL at h
    rw [List.mem_append] at h
    rcases h with h | h
    · split at h
      · cases h
      · rw [List.mem_append] at h
        rcases h with h | h
        · exact ih c h
        · simp at h; subst h; right; left; exact ⟨rfl, rfl⟩
    · exact Or.inl (dec_ok ⟨octN x k, by unfold octN; omega⟩ c h)
theorem hexF_ok : ∀ f m t, (∀ c ∈ t, okB true c) → ∀ c ∈ hexF f m t, okB true c := by
  intro f
  induction f with
  | zero => intro m t h; exact h
  | succ f ih =>
    intro m t h c hc
    unfold hexF at hc
    split at hc
    · exact h c hc
    · refine ih (m / 16) (hexD (m % 16) :: t) ?_ c hc
      intro d hd
      simp only [List.mem_cons] at hd
      rcases hd with rfl | hd
      · rcases hexD_ok ⟨m % 16, by omega⟩ with h1 | h1
        · exact Or.inl h1
        · exact Or.inr (Or.inr ⟨Or.inr h1, rfl⟩)
      · exact h d hd
theorem hexL_ok (n : Nat) : ∀ c ∈ hexL n, okB true c := hexF_ok 20 n [] (fun c h => by cases h)
theorem jnH_ok (g : Nat → Nat) : ∀ k, ∀ c ∈ jnH g k, okB true c := by
  intro k
  induction k with
  | zero => intro c h; cases h
  | succ k ih =>
    intro c h
    unfold jnH at h
    rw [List.mem_append] at h
    rcases h with h | h
    · split at h
      · cases h
      · rw [List.mem_append] at h
        rcases h with h | h
        · exact ih c h
        · simp at h; subst h; right; right; exact ⟨Or.inl rfl, rfl⟩
    · exact hexL_ok _ c h
theorem jnH_len9 (g : Nat → Nat) (hl : ∀ j, g j < 65536) (k : Nat) : (jnH g (k + 1)).length ≤ 5 * k + 4 := by
  induction k with
  | zero =>
    have := (hexL_len _ (hl 0)).2
    simpa [jnH] using this
  | succ k ih =>
    have h4 := (hexL_len _ (hl (k + 1))).2
    show ((if k + 1 = 0 then [] else jnH g (k + 1) ++ [58]) ++ hexL (g (k + 1))).length ≤ _
    rw [if_neg (by omega), List.length_append, List.length_append]
    simp only [List.length_cons, List.length_nil]
    omega
/-- An address's text, as a list. -/
theorem text6_ways (x : BitVec 128) : ∃ l, text6 x = bL l ∧ (∀ c ∈ l, okB true c) ∧ l.length ≤ 39 := by
  by_cases h : rowN x < 2
  · refine ⟨jnH (grN x) 8, ?_, jnH_ok _ _, by have := jnH_len9 (grN x) (grN_bd x) 7; omega⟩
    rw [text6_flat x h]
    have := jnH_jn (grN x) 0 8
    simp only [Nat.zero_add] at this
    rw [this]
    rfl
  · have hb := row_bd x h
    refine ⟨jnH (fun j => grN x (0 + j)) (rowA x) ++ [58, 58] ++ jnH (fun j => grN x (rowA x + rowN x + j)) (8 - (rowA x + rowN x)), ?_, ?_, ?_⟩
    · rw [text6_gap x h, jnH_jn (grN x) 0 (rowA x), jnH_jn (grN x) (rowA x + rowN x)]
      rfl
    · intro c hc
      rw [List.mem_append, List.mem_append] at hc
      rcases hc with (hc | hc) | hc
      · exact jnH_ok _ _ c hc
      · simp at hc; subst hc; right; right; exact ⟨Or.inl rfl, rfl⟩
      · exact jnH_ok _ _ c hc
    · have L1 := jnH_len (fun j => grN x (0 + j)) (fun j => grN_bd x _) (rowA x)
      have L2 := jnH_len (fun j => grN x (rowA x + rowN x + j)) (fun j => grN_bd x _) (8 - (rowA x + rowN x))
      simp only [List.length_append, List.length_cons, List.length_nil]
      omega
theorem text4_ways (x : BitVec 128) : ∃ l, text4 x = bL l ∧ (∀ c ∈ l, okB false c) ∧ l.length ≤ 39 :=
  ⟨fourL x 4, (fourL_text x).symm, fourL_ok x 4, by have := fourL_len x 4; omega⟩
theorem text2_ways (six : Bool) (F : Int) (hF : F = if six = true then 128 else 32) (x : BitVec 128) (hr : rightE F x = 0) : ∃ l, text2 F x = bL l ∧ (∀ c ∈ l, okB six c) ∧ l.length ≤ 39 := by
  unfold text2
  rw [if_pos hr]
  cases six
  · rw [if_neg (by decide)] at hF
    rw [if_pos hF]
    exact text4_ways x
  · rw [if_pos rfl] at hF
    rw [hF, if_neg (by decide)]
    exact text6_ways x
end Go.Proofs.YtpchhfhdepkbcaaDoor
/-
  Plain facts on walking from address to address. Nothing of the program is imported here.
-/
namespace Go.Proofs.YtpchhfhdepkbcaaDoor
open Go.RowKit
set_option linter.unusedSimpArgs false
set_option linter.unusedVariables false

theorem right_of (F : Int) (x : BitVec 128) (hf : fam F = true) (h : x &&& maskW F = x) : rightE F x = 0 := by
  unfold rightE; rw [if_pos hf, if_pos h]
theorem and_mask_idem (F : Int) (x : BitVec 128) : (x &&& maskW F) &&& maskW F = x &&& maskW F := by
  rw [BitVec.and_assoc, BitVec.and_self]
theorem low96_back (x : BitVec 128) (h : x.toNat % 79228162514264337593543950336 = 0) : x &&& maskW 32 = x := by
  have e : x = (x >>> 96) <<< 96 := by
    apply BitVec.eq_of_toNat_eq
    rw [BitVec.toNat_shiftLeft, BitVec.toNat_ushiftRight, Nat.shiftLeft_eq, Nat.shiftRight_eq_div_pow]
    have := x.isLt
    have e2 : (2 : Nat) ^ 96 = 79228162514264337593543950336 := by decide
    have e3 : (2 : Nat) ^ 128 = 340282366920938463463374607431768211456 := by decide
    rw [e2]
    omega
  apply BitVec.eq_of_getLsbD_eq; intro i hi
  rw [mask32]
  have q := congrArg (fun z => z.getLsbD i) e
  simp only [BitVec.getLsbD_and, BitVec.getLsbD_shiftLeft, BitVec.getLsbD_ushiftRight, BitVec.getLsbD_allOnes, hi, decide_true, Bool.true_and] at q ⊢
  by_cases c : i < 96
  · simp only [c, decide_true, Bool.not_true, Bool.false_and, Bool.and_false] at q ⊢
    exact q.symm
  · have d : 96 + (i - 96) < 128 := by omega
    simp only [c, d, decide_false, decide_true, Bool.not_false, Bool.and_true]
theorem step_nat (F : Int) (hf : fam F = true) : 1 ≤ (stepW F).toNat := by
  rcases fam_ways F hf with rfl | rfl <;> decide +kernel
theorem next_right (F : Int) (x : BitVec 128) (hr : rightE F x = 0) (ho : overB x (stepW F) = false) : rightE F (x + stepW F) = 0 := by
  obtain ⟨hf, hm⟩ := right0 F x hr
  apply right_of F _ hf
  unfold overB at ho
  simp only [decide_eq_false_iff_not] at ho
  rcases fam_ways F hf with rfl | rfl
  · apply low96_back
    have e1 : (stepW 32).toNat = 79228162514264337593543950336 := by decide +kernel
    have e3 := low96 x hm
    rw [e1] at ho
    rw [BitVec.toNat_add, e1]
    omega
  · rw [mask128, BitVec.and_allOnes]
theorem add_nat (x y : BitVec 128) (ho : overB x y = false) : (x + y).toNat = x.toNat + y.toNat := by
  unfold overB at ho
  simp only [decide_eq_false_iff_not] at ho
  rw [BitVec.toNat_add]; omega
theorem cmp_next (F : Int) (x : BitVec 128) (hf : fam F = true) (ho : overB x (stepW F) = false) : cmpZ x (x + stepW F) = -1 := by
  have := add_nat x (stepW F) ho
  have := step_nat F hf
  unfold cmpZ; rw [if_pos (by omega)]
theorem sub_next (x y : BitVec 128) : (x + y) - x = y := by rw [BitVec.add_comm]; exact BitVec.add_sub_cancel y x
theorem prev_next (F : Int) (x : BitVec 128) (hr : rightE F x = 0) (ho : overB x (stepW F) = false) : prevB F (x + stepW F) = true ∧ prevV F (x + stepW F) = x := by
  have h1 := next_right F x hr ho
  have h2 := add_nat x (stepW F) ho
  have e : prevB F (x + stepW F) = true := by
    unfold prevB underB; rw [h1]; simp; omega
  refine ⟨e, ?_⟩
  unfold prevV; rw [e, if_pos rfl]; exact BitVec.add_sub_cancel x (stepW F)
theorem next_ways (F : Int) (x : BitVec 128) (hr : rightE F x = 0) : (overB x (stepW F) = true ∧ nextB F x = false ∧ nextV F x = 0#128 ∧ x = maskW F) ∨ (overB x (stepW F) = false ∧ nextB F x = true ∧ nextV F x = x + stepW F) := by
  obtain ⟨hf, hm⟩ := right0 F x hr
  have ho := over_step F x hf hm
  by_cases e : x = maskW F
  · left
    have h1 : overB x (stepW F) = true := by rw [ho]; simp [e]
    have e1 : nextB F x = false := by unfold nextB; rw [h1]; simp
    exact ⟨h1, e1, by unfold nextV; rw [e1]; rfl, e⟩
  · right
    have h1 : overB x (stepW F) = false := by rw [ho]; simp [e]
    have e1 : nextB F x = true := by unfold nextB; rw [h1]; simp [hr]
    exact ⟨h1, e1, by unfold nextV; rw [e1]; rfl⟩
theorem prev_zero (F : Int) (hf : fam F = true) : prevB F 0#128 = false ∧ prevV F 0#128 = 0#128 := by
  have hm : 0#128 &&& maskW F = 0#128 := BitVec.zero_and
  have ho := under_step F 0#128 hf hm
  have e : prevB F 0#128 = false := by unfold prevB; rw [ho]; simp
  exact ⟨e, by unfold prevV; rw [e]; rfl⟩
/-- So many steps on. -/
def walkW (F : Int) (x : BitVec 128) : Nat → BitVec 128
  | 0 => x
  | k + 1 => walkW F x k + stepW F
end Go.Proofs.YtpchhfhdepkbcaaDoor
/-
  The law AddrBack, walked.
-/
namespace Go.Proofs.YtpchhfhdepkbcaaDoor
open Go.RowKit
set_option linter.unusedSimpArgs false
set_option linter.unusedVariables false

def famY (b : Bool) : Int := if b = true then 128 else 32
theorem family2_any (b : Bool) (w : World) :
    Calls Tryd.prog 14 #[.bool b] w fun e w' => e = .returned (.int .i64 (famY b)) ∧ w' = w := by
  cases b
  · go_enter Tryd.func14, Tryd.ntmps14
    go_wp2
    go_ret
    exact ⟨rfl, rfl⟩
  · go_enter Tryd.func14, Tryd.ntmps14
    go_wp2
    go_ret
    exact ⟨rfl, rfl⟩
theorem back_ways (six : Bool) (x : BitVec 128) (hr : rightE (famY six) x = 0) : apE (famY six) (text2 (famY six) x) = 0 ∧ apV (famY six) (text2 (famY six) x) = x := by
  obtain ⟨e1, e2⟩ := parse_eq (famY six) (text2 (famY six) x)
  rw [e1, e2]
  unfold text2
  rw [if_pos hr]
  cases six
  · exact text4_back x hr
  · exact text6_back x
set_option maxHeartbeats 4000000 in
set_option maxRecDepth 20000 in
theorem addrBack_any (six : Bool) (z : BitVec 128) (w : World) (hP : Pow w) (hT : Tab w) :
    Calls Tryd.prog 4 #[.bool six, .agg #[.int .u64 (hI z), .int .u64 (lI z)]] w fun e w' => e = .returned (.bool true) ∧ Below w.heap.size w w' := by
  have KF := fun w => family2_any six w
  have hf : fam (famY six) = true := by cases six <;> decide
  have hr := right_of (famY six) (z &&& maskW (famY six)) hf (and_mask_idem _ _)
  obtain ⟨b1, b2⟩ := back_ways six _ hr
  obtain ⟨l, t1, t2, t3⟩ := text2_ways six (famY six) rfl _ hr
  have KT := fun w hP hT => atext_any (famY six) (z &&& maskW (famY six)) w hP hT
  rw [t1, hr] at KT
  rw [t1] at b1 b2
  have KA := fun w => aparse_any (famY six) (bL l) w (by unfold maxLen; show l.length ≤ _; omega)
  rw [b1, b2] at KA
  have KM := fun w => rmask_any (famY six) w
  have KN := fun w => rand_any z (maskW (famY six)) w
  generalize maskW (famY six) = k at *
  generalize famY six = F at *
  clear b1 b2 hr hf
  revert KN KT KA
  generalize z &&& k = x
  intro KN KT KA
  clear t1
  have hbl := bl1 w (.cells #[.int .u64 (hI z), .int .u64 (lI z)] 24)
  go_enter Tryd.func4, Tryd.ntmps4
  go_wp2_with fail
  refine (known2_any _).mono ?_
  rintro e w1 ⟨rfl, hb⟩
  have X1 := (at_new w w.heap.size z 24 rfl).below hb
  have kB1 := keepb hb hbl
  clear hb hbl
  go_wp2_with fail
  refine (KF _).mono ?_
  rintro e w0 ⟨rfl, rfl⟩
  obtain ⟨x0, x1, x2, x3, x4⟩ := id X1
  go_wp2_with fail
  go_region_with (first
    | (go_at_call 16; refine (KM _).mono ?_; rintro e w2 ⟨rfl, hb2⟩; have X2 : At w2 w.heap.size z := At.below (w := World.drew _) X1 hb2; have kB2 : Below w.heap.size w w2 := keepb (W := World.drew _) hb2 kB1.drew; obtain ⟨y0, y1, y2, y3, y4⟩ := id X2)
    | (go_at_call 15; refine (KN _).mono ?_; rintro e w3 ⟨rfl, hb3⟩; have X3 : At w3 w.heap.size z := At.below X2 hb3; have kB3 := keepb hb3 kB2; obtain ⟨v0, v1, v2, v3, v4⟩ := id X3))
  all_goals
    have X4 := X3.set x
    have kB4 := bset2 kB3 (Nat.le_refl _) (.int .u64 (hI x)) (.int .u64 (lI x))
    clear x0 x1 x2 x3 x4 y0 y1 y2 y3 y4 v0 v1 v2 v3 v4 X1 X2 X3 kB1 kB2 kB3 hb2 hb3 KM KN KF
    obtain ⟨x0, x1, x2, x3, x4⟩ := id X4
    have hP4 := hP.keep kB4
    have hT4 := hT.keep kB4
    go_wp2_with fail
    refine (KT _ hP4 hT4).mono ?_
    rintro e w5 ⟨rfl, hb⟩
    have X5 := X4.below hb
    have kB5 := keepb hb kB4
    clear x0 x1 x2 x3 x4 X4 kB4 hb hP4 hT4 KT hP hT
    go_wp2_with fail
    refine (KA _).mono ?_
    rintro e w6 ⟨rfl, hb⟩
    have hA := bl1 w6 (.cells #[.int .u64 (hI x), .int .u64 (lI x)] 24)
    have X6 := (X5.below hb).below hA
    have Y6 := at_new w6 w6.heap.size x 24 rfl
    have kB6 := keepb hA (keepb hb kB5)
    clear X5 kB5 hb hA KA
    obtain ⟨x0, x1, -, -, -⟩ := X6
    obtain ⟨y0, y1, -, -, -⟩ := Y6
    have HL : Hid ((bL l).size = l.length) := rfl
    have HB : Hid (∀ k, k < l.length → okB six (l.getD k 0)) := fun k hk => t2 _ (getD_mem l k hk)
    have HA : Hid (∀ k, byteAt (bL l) k = ((l.getD k 0).toNat : Int)) := bL_at l
    have hsz : ((bL l).size : Int) ≤ 39 := by rw [HL.out]; omega
    have hsz2 : l.length = (bL l).size := HL.out.symm
    have HS2 : Hid (l.length = (bL l).size) := hsz2
    clear t2 hsz2 t3
    generalize bL l = s at *
    go_wp2
    obtain ⟨W, HW⟩ : ∃ W, Hid ((w6.alloc (.cells #[.int .u64 (hI x), .int .u64 (lI x)] 24)) = W) := ⟨_, rfl⟩
    rw [HW.out] at kB6 ⊢
    clear x0 x1 y0 y1
    go_loopw [10] (fun i wr => ∃ k : Nat, i = .int .i64 (k : Int) ∧ k ≤ s.size ∧ wr = W) (fun i _ => s.size - (intOf i).toNat)
    case atStart => exact ⟨0, rfl, by omega, rfl⟩
    case round =>
      obtain ⟨k, rfl, hk, rfl⟩ := hrel
      by_cases hlt : k < s.size
      · have hbt := byteAt_in s k hlt
        have bd := byteAt_bd s k
        have hk2 : (k : Int) < (s.size : Int) := by omega
        have hok := HB.out k (by rw [HS2.out]; exact hlt)
        have hcv := HA.out k
        unfold okB at hok
        have hok2 : (48 ≤ byteAt s k ∧ byteAt s k ≤ 57) ∨ (byteAt s k = 46 ∧ six = false) ∨ ((byteAt s k = 58 ∨ (97 ≤ byteAt s k ∧ byteAt s k ≤ 102)) ∧ six = true) := by
          rw [hcv]
          rcases hok with h | h | h
          · left; omega
          · right; left; exact ⟨by omega, h.2⟩
          · right; right; exact ⟨by omega, h.2⟩
        clear hok hcv HA HB
        generalize byteAt s k = c at *
        rcases hok2 with ⟨d0, d1⟩ | ⟨rfl, rfl⟩ | ⟨rfl | ⟨d0, d1⟩, rfl⟩
        · go_wp2
          go_roundw
          case rel => exact ⟨k + 1, by go_num, by omega, trivial⟩
          case measure => simp [intOf]; omega
        · go_wp2
          go_roundw
          case rel => exact ⟨k + 1, by go_num, by omega, trivial⟩
          case measure => simp [intOf]; omega
        · go_wp2
          go_roundw
          case rel => exact ⟨k + 1, by go_num, by omega, trivial⟩
          case measure => simp [intOf]; omega
        · have e1 : (c == 46) = false := by simp; omega
          have e2 : (c == 58) = false := by simp; omega
          have e3 : ¬ c ≤ 57 := by omega
          have e4 : 48 ≤ c := by omega
          go_wp2
          go_roundw
          case rel => exact ⟨k + 1, by go_num, by omega, trivial⟩
          case measure => simp [intOf]; omega
      · have hk2 : ¬ (k : Int) < (s.size : Int) := by omega
        go_wp2
        go_ret
        exact ⟨rfl, kB6⟩
end Go.Proofs.YtpchhfhdepkbcaaDoor
/-
  How a prefix that is handed in reads as data.
-/
namespace Go.Proofs.YtpchhfhdepkbcaaDoor
open Go.ChangeShapes Go.WideShapes Go.ChangeAt Go.RowKit Go.Joins
set_option linter.unusedSimpArgs false
set_option linter.unusedVariables false

theorem Tryd.cellsW : Tryd.prog.cellsOf 24 = 2 := by kernel_rfl
theorem Tryd.cellsP : Tryd.prog.cellsOf 41 = 3 := by kernel_rfl
theorem Tryd.cellsI : Tryd.prog.cellsOf 3 = 1 := by kernel_rfl
theorem Tryd.cellsU : Tryd.prog.cellsOf 22 = 1 := by kernel_rfl
section
variable {H : Type} {enc : TypeId × Value → H} {w : World} {base : Nat} {spare : Nat → Bool} {held : Bool}
set_option maxRecDepth 100000 in
theorem open_pfx {r : Reach} {b0 : Nat} {v : Value} {d : DataW H} {p : List MemPlace} (hv : Value.okWide Tryd.prog w r b0 41 v) (h : DataW.Trod enc Tryd.prog w base spare held 41 v d p) :
    ∃ a b n : Int, v = .agg #[.int .u64 a, .int .u64 b, .int .i64 n] ∧ d = .agg [.agg [.lit (.int .u64 a), .lit (.int .u64 b)], .lit (.int .i64 n)] ∧ p = [] ∧ (Lit.int .u64 a).wf = true ∧ (Lit.int .u64 b).wf = true ∧ (Lit.int .i64 n).wf = true := by
  obtain ⟨cs, rfl, hsz⟩ := okWide_struct Tryd.underlying41 hv
  obtain ⟨c0, c1, c2, rfl⟩ := array3 (hsz.trans Tryd.cellsP)
  obtain ⟨fuel, hf⟩ := h
  obtain ⟨y0, y1, n, hx, _, h0, h1⟩ := trod_struct2 Tryd.underlying41 hf
  have h0' : DataW.trod enc Tryd.prog w base spare held n 24 [c0, c1] = some y0 := by simpa [Value.cells, Tryd.cellsW] using h0
  have h1' : DataW.trod enc Tryd.prog w base spare held n 3 [c2] = some y1 := by simpa [Value.cells, Tryd.cellsI] using h1
  obtain ⟨u0, u1, m, hu, _, g0, g1⟩ := trod_struct2 Tryd.underlying24 h0'
  have g0' : DataW.trod enc Tryd.prog w base spare held m 22 [c0] = some u0 := by simpa [Value.cells, Tryd.cellsU] using g0
  have g1' : DataW.trod enc Tryd.prog w base spare held m 22 [c1] = some u1 := by simpa [Value.cells, Tryd.cellsU] using g1
  obtain ⟨a, ea, rfl, wa⟩ := DataW.trod_int Tryd.underlying22 g0'
  obtain ⟨b, eb, rfl, wb⟩ := DataW.trod_int Tryd.underlying22 g1'
  obtain ⟨k, ek, rfl, wk⟩ := DataW.trod_int Tryd.underlying3 h1'
  simp at ea eb ek
  subst ea eb ek hu
  simp only [Prod.mk.injEq] at hx
  exact ⟨a, b, k, rfl, hx.1, by simpa using hx.2, wa, wb, wk⟩
set_option maxRecDepth 100000 in
theorem shut_pfx {a b n : Int} (wa : (Lit.int .u64 a).wf = true) (wb : (Lit.int .u64 b).wf = true) (wn : (Lit.int .i64 n).wf = true) :
    DataW.Trod enc Tryd.prog w base spare held 41 (.agg #[.int .u64 a, .int .u64 b, .int .i64 n]) (.agg [.agg [.lit (.int .u64 a), .lit (.int .u64 b)], .lit (.int .i64 n)]) [] := by
  have f : ∀ {z : Int}, (Lit.int .u64 z).wf = true → DataW.trod enc Tryd.prog w base spare held 1 22 [.int .u64 z] = some (.lit (.int .u64 z), []) := fun hz => by simp [DataW.trod, Tryd.underlying22, hz]
  have g : DataW.trod enc Tryd.prog w base spare held 2 3 [.int .i64 n] = some (.lit (.int .i64 n), []) := by simp [DataW.trod, Tryd.underlying3, wn]
  have s : DataW.trod enc Tryd.prog w base spare held 2 24 [.int .u64 a, .int .u64 b] = some (.agg [.lit (.int .u64 a), .lit (.int .u64 b)], []) := by
    have := trod_struct2_mk (enc := enc) (w := w) (base := base) (spare := spare) (held := held) (n := 1) (cs := [.int .u64 a, .int .u64 b]) Tryd.underlying24 (by simp [Tryd.cellsW]) (by simpa [Tryd.cellsU] using f wa) (by simpa [Tryd.cellsU] using f wb)
    simpa using this
  have := trod_struct2_mk (enc := enc) (w := w) (base := base) (spare := spare) (held := held) (n := 2) (cs := [.int .u64 a, .int .u64 b, .int .i64 n]) Tryd.underlying41 (by simp [Tryd.cellsP]) (by simpa [Tryd.cellsW] using s) (by simpa [Tryd.cellsI] using g)
  exact ⟨3, by simpa [Value.cells] using this⟩
end
end Go.Proofs.YtpchhfhdepkbcaaDoor
