/-
  Part 23 of the proof: 6 texts, one behind the other.
-/
import Derived.Test.YtpiicdpipjjenaaGreatDoorPart19
import Derived.Test.YtpiicdpipjjenaaGreatDoorPart22
import Derived.Test.YtpiicdpipjjenaaGreatDoorPart8
import Derived.Test.YtpiicdpipjjenaaGreatDoorPart15
import Derived.Test.YtpiicdpipjjenaaGreatDoorPart16
import Derived.Test.YtpiicdpipjjenaaGreatDoorPart17
import Derived.Test.YtpiicdpipjjenaaGreatDoorPart7
import Derived.Test.YtpiicdpipjjenaaGreatDoorPart5
import Derived.Test.YtpiicdpipjjenaaGreatDoorPart1
namespace Go.Proofs.YtpiicdpipjjenaaGreatDoor
open Go.RowKit
set_option linter.unusedSimpArgs false
set_option linter.unusedVariables false
attribute [local go_sem] Oper.semAt_some

set_option maxRecDepth 20000 in
set_option maxHeartbeats 8000000 in
theorem parseS_any (F : Int) (s : ByteArray) (w : World) (hF : fam F = true) (hs : s.size ≤ 1000000000) (L S : List Rte) (hres : lnsR F s (s.size + 1) 0 1 0 [] 0 = ((0, 0, 0), L)) (hL0 : 0 < L.length) (hL : L.length ≤ 1000000000)
    (KS : ∀ (base g c : Nat) W, RwO W base g c L.length L → Calls Tryz.prog 50 #[.slice (some ⟨g, 0, none⟩) L.length c, .func (.func 27) #[] #[]] W fun e w' => e = .returned (.tuple #[]) ∧ RwO w' base g c L.length S ∧ Bo g W w') :
    Calls Tryz.prog 15 #[.int .i64 F, .string s] w fun e w' => (∃ v, e = .returned (.tuple #[.agg #[.int .i64 F, v], .agg #[.int .i64 0, .int .i64 0, .int .i64 0]]) ∧ Row w' 4 v (ltL S).length (rowR (ltL S))) ∧ Below w.heap.size w w' := by
  have q1 := bl1 w (.cells #[.int .i64 0, .slice none 0 0] 24)
  have q2 := bl1 (w.alloc (.cells #[.int .i64 0, .slice none 0 0] 24)) (.cells #[.int .i64 0, .int .i64 0, .int .i64 0] 37)
  have s1 : (w.alloc (.cells #[.int .i64 0, .slice none 0 0] 24)).heap.size = w.heap.size + 1 := by simp
  have HP : Hid (∀ X, X = (w.alloc (.cells #[.int .i64 0, .slice none 0 0] 24)).alloc (.cells #[.int .i64 0, .int .i64 0, .int .i64 0] 37) → X.heap[w.heap.size]? = some (.cells #[.int .i64 0, .slice none 0 0] 24) ∧ X.heap[w.heap.size + 1]? = some (.cells #[.int .i64 0, .int .i64 0, .int .i64 0] 37) ∧ Below w.heap.size w X) := hidR (by
    rintro X rfl
    refine ⟨?_, ?_, keepb q2 q1⟩
    · rw [q2.block _ (by omega)]
      exact Array.getElem?_push_size
    · rw [← s1]
      exact Array.getElem?_push_size)
  have KA := fun w => alast_any F w
  have hE : lastE F = 0 := by unfold lastE; rw [if_pos hF]
  rw [hE] at KA
  clear q1 q2 s1 hE
  go_enter Tryz.func15, Tryz.ntmps15
  go_wp2_with fail
  revert HP
  generalize hW0 : (w.alloc (.cells #[.int .i64 0, .slice none 0 0] 24)).alloc (.cells #[.int .i64 0, .int .i64 0, .int .i64 0] 37) = W0
  intro HP
  obtain ⟨hp1, hp2, hp3⟩ := HP.out W0 rfl
  clear HP hW0
  refine (KA W0).mono ?_
  rintro e W1 ⟨rfl, hb⟩
  have b2 := bl1 W1 (.cells #[.int .u64 (hI (lastV F)), .int .u64 (lI (lastV F))] 43)
  have b3 := bl1 (W1.alloc (.cells #[.int .u64 (hI (lastV F)), .int .u64 (lI (lastV F))] 43)) (.cells #[.int .i64 F, .string s, .int .i64 0, .int .i64 1, .int .i64 0] 72)
  have sz1 : (W1.alloc (.cells #[.int .u64 (hI (lastV F)), .int .u64 (lI (lastV F))] 43)).heap.size = W1.heap.size + 1 := by simp
  have bb := keepb b3 (keepb b2 hb)
  have HT : Hid (((W1.alloc (.cells #[.int .u64 (hI (lastV F)), .int .u64 (lI (lastV F))] 43)).alloc (.cells #[.int .i64 F, .string s, .int .i64 0, .int .i64 1, .int .i64 0] 72)).heap[w.heap.size]? = some (.cells #[.int .i64 0, .slice none 0 0] 24)) := hidR ((bb.block _ (blk_lt5 hp1)).trans hp1)
  have HF : Hid (((W1.alloc (.cells #[.int .u64 (hI (lastV F)), .int .u64 (lI (lastV F))] 43)).alloc (.cells #[.int .i64 F, .string s, .int .i64 0, .int .i64 1, .int .i64 0] 72)).heap[w.heap.size + 1]? = some (.cells #[.int .i64 0, .int .i64 0, .int .i64 0] 37)) := hidR ((bb.block _ (blk_lt5 hp2)).trans hp2)
  have HB := hidR (keepb bb hp3)
  have HR : Hid (RdV ((W1.alloc (.cells #[.int .u64 (hI (lastV F)), .int .u64 (lI (lastV F))] 43)).alloc (.cells #[.int .i64 F, .string s, .int .i64 0, .int .i64 1, .int .i64 0] 72)) (W1.heap.size + 1) F s 0 1 0) := hidR (by
    show _ = _
    rw [← sz1]
    exact Array.getElem?_push_size)
  have hlt : w.heap.size + 1 < W1.heap.size := by have := hb.size; have := blk_lt5 hp2; omega
  clear b2 b3 bb hp1 hp2 hp3 hb sz1 KA
  go_wp2_with fail
  revert HT HF HB HR hlt
  generalize (W1.alloc (.cells #[.int .u64 (hI (lastV F)), .int .u64 (lI (lastV F))] 43)).alloc (.cells #[.int .i64 F, .string s, .int .i64 0, .int .i64 1, .int .i64 0] 72) = W2
  generalize W1.heap.size = R1
  intro HT HF HB HR hlt
  refine (entries5_any (R1 + 1) F s W2 HR.out hs ((0, 0, 0), L) hres).mono ?_
  rintro e W3 ⟨⟨lv, rfl, hO⟩, hb⟩
  have hR2 : R1 + 1 < W2.heap.size := HR.out.lt
  obtain ⟨g, c, rfl⟩ : ∃ g c, lv = .slice (some ⟨g, 0, none⟩) L.length c := by
    rcases hO.2 with ⟨_, e1⟩ | ⟨g, cap, cur, e0, _⟩
    · have e2 : L.length = 0 := e1
      omega
    · exact ⟨g, cap, e0⟩
  have q4 := bl1 W3 (.cells #[.int .i64 0, .int .i64 0, .int .i64 0] 37)
  have hgb : W2.heap.size + 4 ≤ g := (hO.lt g rfl).1
  have HO := hidR (show RwO (W3.alloc (.cells #[.int .i64 0, .int .i64 0, .int .i64 0] 37)) (W2.heap.size + 4) g c L.length L from RwO.below ⟨rfl, hO⟩ q4)
  have HT3 := hidR ((q4.block _ (blk_lt5 ((hb.blk _ (blk_lt5 HT.out) (by omega)).trans HT.out))).trans ((hb.blk _ (blk_lt5 HT.out) (by omega)).trans HT.out))
  have HF3 := hidR ((q4.block _ (blk_lt5 ((hb.blk _ (blk_lt5 HF.out) (by omega)).trans HF.out))).trans ((hb.blk _ (blk_lt5 HF.out) (by omega)).trans HF.out))
  have HB3 := hidR (keepb q4 (Bo.low hb HB.out (by have := HB.out.size; omega) (Nat.le_refl _)))
  clear hO hb q4 HT HF HB HR hres
  go_wp2_with fail
  revert HO HT3 HF3 HB3
  generalize W3.alloc (.cells #[.int .i64 0, .int .i64 0, .int .i64 0] 37) = W4
  intro HO HT3 HF3 HB3
  refine (inOrder_any F (W2.heap.size + 4) g c L.length L S W4 HO.out hL0 hL (fun W h => KS _ _ _ W h)).mono ?_
  rintro e W5 ⟨rfl, hD, hb⟩
  have hT5 := (hb.blk _ (blk_lt5 HT3.out) (by omega)).trans HT3.out
  have hF5 := (hb.blk _ (blk_lt5 HF3.out) (by omega)).trans HF3.out
  have HB5 := hidR (Bo.low hb HB3.out (by have := HB3.out.size; omega) (Nat.le_refl _))
  have c0 := at_blk hT5 0 (.int .i64 0) rfl
  have c1 := at_blk hT5 1 (.slice none 0 0) rfl
  have c2 := at_blk hF5 0 (.int .i64 0) rfl
  have c3 := at_blk hF5 1 (.int .i64 0) rfl
  have c4 := at_blk hF5 2 (.int .i64 0) rfl
  have d0 := fr_blk5 (j := 0) hT5
  have d1 := fr_blk5 (j := 1) hT5
  have d2 := fr_blk5 (j := 0) hF5
  have d3 := fr_blk5 (j := 1) hF5
  have d4 := fr_blk5 (j := 2) hF5
  have HZ : Hid (Row (((((W5.setCell ⟨w.heap.size, 0, none⟩ (.int .i64 F)).setCell ⟨w.heap.size, 1, none⟩ (.slice (some ⟨g, 0, none⟩) (ltL S).length c)).setCell ⟨w.heap.size + 1, 0, none⟩ (.int .i64 0)).setCell ⟨w.heap.size + 1, 1, none⟩ (.int .i64 0)).setCell ⟨w.heap.size + 1, 2, none⟩ (.int .i64 0)) 4 (.slice (some ⟨g, 0, none⟩) (ltL S).length c) (ltL S).length (rowR (ltL S)) ∧ Below w.heap.size w (((((W5.setCell ⟨w.heap.size, 0, none⟩ (.int .i64 F)).setCell ⟨w.heap.size, 1, none⟩ (.slice (some ⟨g, 0, none⟩) (ltL S).length c)).setCell ⟨w.heap.size + 1, 0, none⟩ (.int .i64 0)).setCell ⟨w.heap.size + 1, 1, none⟩ (.int .i64 0)).setCell ⟨w.heap.size + 1, 2, none⟩ (.int .i64 0))) := hidR (by
    obtain ⟨D', h1, h2, h3⟩ := hD
    have h4 : RwO (((((W5.setCell ⟨w.heap.size, 0, none⟩ (.int .i64 F)).setCell ⟨w.heap.size, 1, none⟩ (.slice (some ⟨g, 0, none⟩) (ltL S).length c)).setCell ⟨w.heap.size + 1, 0, none⟩ (.int .i64 0)).setCell ⟨w.heap.size + 1, 1, none⟩ (.int .i64 0)).setCell ⟨w.heap.size + 1, 2, none⟩ (.int .i64 0)) (W2.heap.size + 4) g c L.length D' := h1.heap (by rw [hSet _ (by omega), hSet _ (by omega), hSet _ (by omega), hSet _ (by omega), hSet _ (by omega)])
    have r := own_row h4.2
    obtain ⟨r1, ao, c', r2, r3, r4⟩ := r
    injection r2 with r5 _ r6
    subst r5 r6
    refine ⟨⟨rowR_len _, _, _, rfl, by omega, ?_⟩, ((((HB5.out.setCell (p := ⟨w.heap.size, 0, none⟩) (Nat.le_refl _) _).setCell (p := ⟨w.heap.size, 1, none⟩) (Nat.le_refl _) _).setCell (p := ⟨w.heap.size + 1, 0, none⟩) (Nat.le_succ _) _).setCell (p := ⟨w.heap.size + 1, 1, none⟩) (Nat.le_succ _) _).setCell (p := ⟨w.heap.size + 1, 2, none⟩) (Nat.le_succ _) _⟩
    rcases r4 with ⟨e, _⟩ | ⟨b, off, e, r4⟩
    · cases e
    · injection e with e
      injection e with e1 e2
      subst e1 e2
      refine .inr ⟨_, _, rfl, fun j u hj => r4 j u ?_⟩
      rw [← h2, ← rowR_take] at hj
      have hjl := (List.getElem?_eq_some_iff.mp hj).1
      rw [List.length_take] at hjl
      rw [← hj, List.getElem?_take_of_lt (by omega)])
  clear hD hb hT5 hF5 HO HT3 HF3 HB3 HB5 KS
  go_wp2
  exact bodyPost_ret (v := .tuple #[.agg #[.int .i64 F, .slice (some ⟨g, 0, none⟩) (ltL S).length c], .agg #[.int .i64 0, .int .i64 0, .int .i64 0]]) (by simp [results, Tryz.results15, go_sem, c0, c1, c2, c3, c4]) rfl ⟨⟨_, rfl, HZ.out.1⟩, HZ.out.2⟩
end Go.Proofs.YtpiicdpipjjenaaGreatDoor
namespace Go.Proofs.YtpiicdpipjjenaaGreatDoor
open Go.RowKit
set_option linter.unusedSimpArgs false
set_option linter.unusedVariables false

theorem cut_le (x : BitVec 128) (n : Int) : (cutW x n).toNat ≤ x.toNat := by
  rw [cut_nat]; exact Nat.div_mul_le_self _ _
end Go.Proofs.YtpiicdpipjjenaaGreatDoor
namespace Go.Proofs.YtpiicdpipjjenaaGreatDoor
open Go.RowKit
set_option linter.unusedSimpArgs false
set_option linter.unusedVariables false

def inR (px : BitVec 128) (pn : Int) (r : Rte) : Bool := withinB px pn r.1.1 r.1.2
def RtR (F : Int) (l : List Rte) : Prop := ∀ r ∈ l, Rt F r.1.1 r.1.2
theorem toP_le {y : BitVec 128} {m : Int} {l : List Rte} (hO : OrdR l) {k : Nat} (h : UpTo y m l k) : ∀ (j : Nat) (hj : j < l.length), j < k ↔ pcmpZ l[j].1.1 l[j].1.2 y m ≤ 0 := by
  obtain ⟨hk, i, ok, ⟨h1, h2, h3⟩, h4⟩ := h
  intro j hj
  have hj2 := h2 j hj
  unfold toP at hj2 h3
  constructor
  · intro hjk
    by_cases c : j < i
    · have := hj2.mp c; omega
    · have hji : j = i := by
        rw [h4] at hjk
        split at hjk <;> omega
      subst hji
      have hok : ok = true := by
        cases ok with
        | true => rfl
        | false => rw [h4, if_neg (by simp)] at hjk; omega
      rw [hok, List.getElem?_eq_getElem hj] at h3
      have := of_decide_eq_true h3.symm
      omega
  · intro hle
    by_cases c : j < i
    · rw [h4]; split <;> omega
    · by_cases c2 : pcmpZ l[j].1.1 l[j].1.2 y m < 0
      · exact absurd (hj2.mpr c2) c
      · have h0 : pcmpZ l[j].1.1 l[j].1.2 y m = 0 := by omega
        by_cases c3 : j = i
        · subst c3
          rw [List.getElem?_eq_getElem hj] at h3
          have : ok = true := by rw [h3]; exact decide_eq_true h0
          rw [h4, if_pos this]; omega
        · exfalso
          have hij : i < j := by omega
          have hi := hO i j hj hij
          have e := (pcmp_eq0 _ _ _ _).mp h0
          have hi2 := h2 i (by omega)
          unfold toP at hi2
          rw [← e.1, ← e.2] at hi2
          have := hi2.mpr hi
          omega
theorem in_le {F : Int} {px : BitVec 128} {pn : Int} {r : Rte} (hr : Rt F r.1.1 r.1.2) (h : withinB px pn r.1.1 r.1.2 = true) : pcmpZ r.1.1 r.1.2 px pn ≤ 0 := by
  obtain ⟨h1, h2⟩ := (within_iff _ _ _ _).mp h
  rw [pcmp_le]
  have := cut_le px r.1.2
  rw [h2] at this
  by_cases c : r.1.1.toNat < px.toNat
  · exact .inl c
  · exact .inr ⟨BitVec.eq_of_toNat_eq (by omega), h1⟩
theorem within_trans {F : Int} {x : BitVec 128} {n : Int} {y : BitVec 128} {m : Int} {z : BitVec 128} {k : Int} (hz : 0 ≤ k) (h1 : withinB x n y m = true) (h2 : withinB y m z k = true) : withinB x n z k = true := by
  obtain ⟨a1, a2⟩ := (within_iff _ _ _ _).mp h1
  obtain ⟨b1, b2⟩ := (within_iff _ _ _ _).mp h2
  refine (within_iff _ _ _ _).mpr ⟨by omega, ?_⟩
  rw [← b2, ← a2, cut_cut _ _ _ hz b1]
structure UpS (F : Int) (l : List Rte) (px : BitVec 128) (pn : Int) (nx : BitVec 128) (nn : Int) (k : Nat) (pre : List Rte) : Prop where
  kl : k ≤ l.length
  nr : Rt F nx nn
  pw : withinB px pn nx nn = true
  le : ∀ (j : Nat) (hj : j < l.length), j < k → pcmpZ l[j].1.1 l[j].1.2 nx nn ≤ 0
  has : ∀ (j : Nat) (hj : j < l.length), j < k → inR px pn l[j] = true → withinB nx nn l[j].1.1 l[j].1.2 = true
  pr : pre = ((l.drop k).filter (inR px pn)).reverse
theorem filter_none {px : BitVec 128} {pn : Int} {l : List Rte} : ∀ (d k : Nat), k + d ≤ l.length → (∀ (j : Nat) (hj : j < l.length), k ≤ j → j < k + d → inR px pn l[j] = false) → (l.drop k).filter (inR px pn) = (l.drop (k + d)).filter (inR px pn)
  | 0, k, _, _ => rfl
  | d + 1, k, hk, h => by
    have hkl : k < l.length := by omega
    rw [List.drop_eq_getElem_cons hkl, List.filter_cons_of_neg (by rw [h k hkl (by omega) (by omega)]; simp), filter_none d (k + 1) (by omega) (fun j hj h1 h2 => h j hj (by omega) (by omega)), show k + 1 + d = k + (d + 1) by omega]
theorem up_first {F : Int} {l : List Rte} {px : BitVec 128} {pn : Int} {k : Nat} (hO : OrdR l) (hR : RtR F l) (hp : Rt F px pn) (hk : UpTo px pn l k) : UpS F l px pn px pn k [] := by
  have hj := toP_le hO hk
  have self : withinB px pn px pn = true := (within_iff _ _ _ _).mpr ⟨Int.le_refl _, hp.2.2⟩
  refine ⟨hk.1, hp, self, fun j h1 h2 => (hj j h1).mp h2, fun j h1 _ h3 => h3, ?_⟩
  have e := filter_none (px := px) (pn := pn) (l := l) (l.length - k) k (by have := hk.1; omega) (fun j h1 h2 _ => by
    cases h : inR px pn l[j] with
    | false => rfl
    | true =>
      have := (hj j h1).mpr (in_le (hR _ (List.getElem_mem h1)) h)
      omega)
  rw [e, show k + (l.length - k) = l.length by have := hk.1; omega, List.drop_length]
  rfl
theorem up_step {F : Int} {l : List Rte} {px : BitVec 128} {pn : Int} {nx : BitVec 128} {nn : Int} {k : Nat} {pre : List Rte} (hF : F ≤ 128) (hO : OrdR l) (hR : RtR F l) (hp : Rt F px pn) (s : UpS F l px pn nx nn (k + 1) pre) {k' : Nat} (hk : k < l.length)
    (hU : UpTo (cutW nx (meetN nx nn l[k].1.1 l[k].1.2)) (meetN nx nn l[k].1.1 l[k].1.2) (l.take k) k') :
    withinB nx nn l[k].1.1 l[k].1.2 = inR px pn l[k] ∧ UpS F l px pn (cutW nx (meetN nx nn l[k].1.1 l[k].1.2)) (meetN nx nn l[k].1.1 l[k].1.2) k' (pre ++ if inR px pn l[k] = true then [l[k]] else []) := by
  obtain ⟨rx, rn, hrr⟩ : ∃ rx rn, rx = l[k].1.1 ∧ rn = l[k].1.2 := ⟨_, _, rfl, rfl⟩
  have hr : Rt F l[k].1.1 l[k].1.2 := hR _ (List.getElem_mem hk)
  have hn := s.nr
  have same : withinB nx nn l[k].1.1 l[k].1.2 = inR px pn l[k] := by
    cases h : inR px pn l[k] with
    | true => exact s.has k hk (by omega) h
    | false =>
      cases h2 : withinB nx nn l[k].1.1 l[k].1.2 with
      | false => rfl
      | true =>
        have := within_trans (F := F) hr.1 s.pw h2
        unfold inR at h
        rw [this] at h; cases h
  refine ⟨same, ?_⟩
  have m0 := meetN_nn nx nn l[k].1.1 l[k].1.2 hn.1 hr.1
  have ml := meetN_le nx nn l[k].1.1 l[k].1.2
  have nin : withinB nx nn (cutW nx (meetN nx nn l[k].1.1 l[k].1.2)) (meetN nx nn l[k].1.1 l[k].1.2) = true := (within_iff _ _ _ _).mpr ⟨ml.1, rfl⟩
  have nrt : Rt F (cutW nx (meetN nx nn l[k].1.1 l[k].1.2)) (meetN nx nn l[k].1.1 l[k].1.2) := ⟨m0, by have := hn.2.1; omega, cut_cut _ _ _ m0 (Int.le_refl _)⟩
  have hOt : OrdR (l.take k) := fun a b hb hab => by
    rw [List.length_take] at hb
    have := hO a b (by omega) hab
    simpa [List.getElem_take] using this
  have hlt : (l.take k).length = k := by rw [List.length_take]; omega
  have hj := toP_le hOt hU
  have hk' : k' ≤ k := by have := hU.1; omega
  -- a route further ahead that has the prefix has what is near now
  have key : ∀ (j : Nat) (hjl : j < l.length), j < k → inR px pn l[j] = true → withinB (cutW nx (meetN nx nn l[k].1.1 l[k].1.2)) (meetN nx nn l[k].1.1 l[k].1.2) l[j].1.1 l[j].1.2 = true := by
    intro j hjl hjk hin
    have hrj : Rt F l[j].1.1 l[j].1.2 := hR _ (List.getElem_mem hjl)
    have w1 := s.has j hjl (by omega) hin
    have o1 := hO j k hk hjk
    have o2 := s.le k hk (by omega)
    have w2 := between F l[j].1.1 l[j].1.2 l[k].1.1 l[k].1.2 nx nn hrj hr (by omega) o2 w1
    exact meet_above nx nn l[k].1.1 l[k].1.2 l[j].1.1 l[j].1.2 hrj.1 (by have := hn.2.1; omega) w1 w2
  refine ⟨by omega, nrt, within_trans (F := F) m0 s.pw nin, fun j h1 h2 => ?_, fun j h1 h2 h3 => key j h1 (by omega) h3, ?_⟩
  · have := (hj j (by omega)).mp h2
    simpa [List.getElem_take] using this
  · have e := filter_none (px := px) (pn := pn) (l := l) (k - k') k' (by omega) (fun j h1 h2 h3 => by
      cases h : inR px pn l[j] with
      | false => rfl
      | true =>
        have q := in_le (hR _ (List.getElem_mem h1)) (key j h1 (by omega) h)
        have := (hj j (by omega)).mpr (by simpa [List.getElem_take] using q)
        omega)
    rw [e, show k' + (k - k') = k by omega, s.pr, List.drop_eq_getElem_cons hk]
    by_cases c : inR px pn l[k] = true
    · rw [List.filter_cons_of_pos c, if_pos c]; simp
    · rw [List.filter_cons_of_neg c, if_neg c]; simp
theorem up_end {F : Int} {l : List Rte} {px : BitVec 128} {pn : Int} {nx : BitVec 128} {nn : Int} {pre : List Rte} (s : UpS F l px pn nx nn 0 pre) : pre = (l.filter (inR px pn)).reverse := by
  have := s.pr
  rwa [List.drop_zero] at this
end Go.Proofs.YtpiicdpipjjenaaGreatDoor
namespace Go.Proofs.YtpiicdpipjjenaaGreatDoor
open Go.RowKit Go.Shelf
set_option linter.unusedSimpArgs false
set_option linter.unusedVariables false

structure Gw (Ty : TypeId) (n : Nat) (A B : World) : Prop where
  os : B.os = A.os
  tape : B.tape = A.tape
  output : B.output = A.output
  size : A.heap.size ≤ B.heap.size
  same : ∀ z o, A.heap[z]? = some o → (z < n ∨ ∃ cs T, o = .cells cs T ∧ T ≠ Ty) → B.heap[z]? = some o
theorem Gw.of {Ty : TypeId} {n : Nat} {A B : World} (h : Below A.heap.size A B) : Gw Ty n A B := ⟨h.os, h.tape, h.output, h.size, fun z o hz _ => (h.block z (Array.getElem?_eq_some_iff.1 hz).1).trans hz⟩
theorem Gw.trans {Ty : TypeId} {n : Nat} {A B C : World} (h : Gw Ty n A B) (k : Gw Ty n B C) : Gw Ty n A C := ⟨by rw [k.os, h.os], by rw [k.tape, h.tape], by rw [k.output, h.output], Nat.le_trans h.size k.size, fun z o hz hq => k.same z o (h.same z o hz hq) hq⟩
theorem Gw.mono {Ty : TypeId} {n m : Nat} {A B : World} (h : Gw Ty n A B) (hm : m ≤ n) : Gw Ty m A B := ⟨h.os, h.tape, h.output, h.size, fun z o hz hq => h.same z o hz (hq.imp (fun q => by omega) id)⟩
theorem Gw.low {Ty : TypeId} {n : Nat} {w A B : World} (h : Gw Ty n A B) (hs : Below w.heap.size w A) (hn : w.heap.size ≤ n) : Below w.heap.size w B := ⟨by rw [h.os, hs.os], by rw [h.tape, hs.tape], by rw [h.output, hs.output], Nat.le_trans hs.size h.size, fun k hk => by
  have e := hs.block k hk
  obtain ⟨o, ho⟩ : ∃ o, w.heap[k]? = some o := ⟨_, Array.getElem?_eq_getElem hk⟩
  rw [ho] at e ⊢
  exact h.same k o e (.inl (by omega))⟩
theorem gw_put {Ty : TypeId} {n r : Nat} {A : World} {o : Obj} (hr : n ≤ r) (h : A.heap[r]? = some o) (hc : o.isCells = false) (o' : Obj) : Gw Ty n A (A.putObj r o') := ⟨rfl, rfl, rfl, by simp, fun z x hz hq => by
  have hne : z ≠ r := by
    rintro rfl
    rw [h] at hz
    cases hz
    rcases hq with q | ⟨cs, T, rfl, _⟩
    · omega
    · cases hc
  exact (World.putObj_heap_other hne).trans hz⟩
theorem gw_set {Ty : TypeId} {n N o : Nat} {A : World} {cs : Array Value} (hr : n ≤ N) (h : A.heap[N]? = some (.cells cs Ty)) (v : Value) : Gw Ty n A (A.setCell ⟨N, o, none⟩ v) := ⟨rfl, rfl, rfl, by simp, fun z x hz hq => by
  have hne : ¬ z = N := by
    rintro rfl
    rw [h] at hz
    cases hz
    rcases hq with q | ⟨cs', T, e, ne⟩
    · omega
    · cases e; exact ne rfl
  exact (Below.heap_setCell A ⟨N, o, none⟩ v z hne).trans hz⟩
section
variable {P : Program}
def Kx (Xc : World → Nat → Prop) (V V' : World) : Prop := V.heap.size ≤ V'.heap.size ∧ (∀ z o, V.heap[z]? = some o → ¬ Xc V z → V'.heap[z]? = some o) ∧ ∀ z, Xc V' z → Xc V z ∨ V.heap.size ≤ z
theorem Kx.trans {Xc : World → Nat → Prop} {A B C : World} (h : Kx Xc A B) (k : Kx Xc B C) : Kx Xc A C := ⟨Nat.le_trans h.1 k.1, fun z o hz hx => k.2.1 z o (h.2.1 z o hz hx) (fun q => by
  rcases h.2.2 z q with q | q
  · exact hx q
  · have := (Array.getElem?_eq_some_iff.1 hz).1
    omega), fun z hz => by
  rcases k.2.2 z hz with q | q
  · exact h.2.2 z q
  · exact .inr (Nat.le_trans h.1 q)⟩
def SeqZ {α : Type} (Ty : TypeId) (n : Nat) (P : Program) (g : Nat) (lb : Array Value) (encs : α → Array Value) (Zs : Nat → Prop) (S Sp : List α → Prop) (w : World) : Prop :=
  ∀ (l : Nat) (J Jx : List α → World → Prop) (Xc : World → Nat → Prop) (W : World), Below w.heap.size w W → (∀ s A B, J s A → Gw Ty W.heap.size A B → J s B) → (∀ s A B, Jx s A → Gw Ty W.heap.size A B → Jx s B) →
    (∀ s A, J s A → ∀ z, Xc A z → z < A.heap.size ∧ ¬ Zs z) → (∀ s A B, J s A → Gw Ty W.heap.size A B → ∀ z, Xc B z → Xc A z) →
    (∀ pre x V, J pre V → Sp (pre ++ [x]) → YieldAt Fence.wide (n - 1) P l (encs x) V fun e V' => (e = .returned (.bool true) ∧ J (pre ++ [x]) V' ∧ Kx Xc V V') ∨ (e = .returned (.bool false) ∧ Jx (pre ++ [x]) V')) →
    J [] W → CallsIn Fence.wide n P g (#[.func (.yield l) #[] #[]] ++ lb) W fun e W' => (∃ v, e = .returned v) ∧ ((∃ xs, S xs ∧ J xs W') ∨ (∃ pre, Sp pre ∧ Jx pre W'))
theorem rangeZ {α : Type} {Ty : TypeId} {g : Operand} {ps : Array Tmp} {assign body : Code} {Q : Exit → Act → World → Prop} {a : Act} {w : World} (n : Nat) (h1 : 1 ≤ n) {gf : Nat} {lb : Array Value} (hg : a.eval g = .func (.func gf) #[] lb) (eg : ∀ args w, (callFunc gf args).run P w = .ok (.enter gf args) w)
    {encs : α → Array Value} {Zs : Nat → Prop} {S Sp : List α → Prop} {w0 : World} (hseq : SeqZ Ty (n - 1) P gf lb encs Zs S Sp w0) (hZs : ∀ z, Zs z → z < w.heap.size)
    (hb0 : Below w0.heap.size w0 w) (hps : ∀ x, (encs x).size = ps.size)
    (I : List α → World → Prop) (Ix : Code → List α → World → Prop) (hI : ∀ s A B, I s A → Gw Ty w.heap.size A B → I s B) (hIx : ∀ c s A B, Ix c s A → Gw Ty w.heap.size A B → Ix c s B) (h0 : I [] w)
    (Xi : World → Nat → Prop) (hX1 : ∀ s A, I s A → ∀ z, Xi A z → z < A.heap.size ∧ ¬ Zs z) (hX2 : ∀ s A B, I s A → Gw Ty w.heap.size A B → ∀ z, Xi B z → Xi A z)
    (Ax : α → Act → World → Prop) (hAx : ∀ x a' (A : World) (o o' : Obj), Ax x a' A → A.heap[w.heap.size + 1]? = some o → o.isCells = false → Ax x a' (A.putObj (w.heap.size + 1) o'))
    (hassign : ∀ (l : Nat) (pre : List α) (x : α) (W : World) (K : Act → World → Prop), I pre W → (∀ a' W', KeepsFrom w.heap.size W W' → Kx Xi W W' → I pre W' → Ax x a' W' → K a' W') →
      assign.wpIn (Fence.wide.inRound l) (n - 1 - 1) P (Exit.then K (fun _ _ _ => False)) { tmps := (ps.zip (encs x)).foldl (fun t (p, v) => t.setIfInBounds p v) a.tmps, defers := [] } W)
    (hbody : ∀ (l : Nat) (pre : List α) (x : α) (a' : Act) (W : World), w.heap.size ≤ l → (∃ r, W.heap[l]? = some (.loop r)) → I pre W → Ax x a' W → Sp (pre ++ [x]) → body.wpIn (Fence.wide.inRound l) (n - 1 - 1) P (postX w.heap.size (Kx Xi) I Ix (pre ++ [x]) W) a' W)
    (hdone : ∀ (D : Nat) (xs : List α) (W : World), w.heap.size ≤ D → S xs → I xs W → W.heap[D]? = some (.deferred (some [])) → Q .normal { a with defers := { target := .collected D, args := #[] } :: a.defers } W)
    (hstop : ∀ (D : Nat) (c : Code) (pre : List α) (W : World), w.heap.size ≤ D → Sp pre → Ix c pre W → W.heap[D]? = some (.deferred (some [])) → c.wpIn Fence.wide n P Q { a with defers := { target := .collected D, args := #[] } :: a.defers } W) :
    (Code.rangeFunc g ps assign body).wpIn Fence.wide n P Q a w := by
  refine wpIn_rangeFunc (fun fn hfn => ?_)
  rw [Fence.wide_round]
  -- the record, by its state and its pending jump
  obtain ⟨rc, hrc⟩ : ∃ rc : LoopState → Option Code → Loop, ∀ s p, rc s p = { state := s, pending := p, fn, tmps := a.tmps, params := ps, assign, body, defers := w.heap.size } := ⟨_, fun _ _ => rfl⟩
  have bw := bl1 w (.deferred (some []))
  have bw2 := bl1 (w.alloc (.deferred (some []))) (.loop (rc .ready none))
  have k1 : Bk w.heap.size (rc .ready none) ((w.alloc (.deferred (some []))).alloc (.loop (rc .ready none))) := by
    refine ⟨?_, ?_⟩
    · have := World.alloc_heap_new (w.alloc (.deferred (some []))) (.loop (rc .ready none))
      rwa [World.size_alloc] at this
    · exact (bw2.block _ (by simp)).trans (World.alloc_heap_new w _)
  have i1 : I [] ((w.alloc (.deferred (some []))).alloc (.loop (rc .ready none))) := hI _ _ _ h0 (Gw.of (keepb bw2 bw))
  have b1 : Below w0.heap.size w0 ((w.alloc (.deferred (some []))).alloc (.loop (rc .ready none))) := keepb bw2 (keepb bw hb0)
  have hent : (Instr.enterLoop fn a.tmps ps assign body none).run P w = .ok (w.heap.size + 1, [{ target := .collected w.heap.size, args := #[] }]) ((w.alloc (.deferred (some []))).alloc (.loop (rc .ready none))) := by
    rw [hrc]
    exact run_enterLoop_outer _ _ _ _ _
  have hs1 : ((w.alloc (.deferred (some []))).alloc (.loop (rc .ready none))).heap.size = w.heap.size + 2 := by simp
  revert k1 i1 b1 hent hs1
  generalize (w.alloc (.deferred (some []))).alloc (.loop (rc .ready none)) = V1
  intro k1 i1 b1 hent hs1
  clear bw bw2
  refine ⟨w.heap.size + 1, _, V1, { target := .fn (.func gf) lb, args := #[.func (.yield (w.heap.size + 1)) #[] #[]] }, V1, gf, #[.func (.yield (w.heap.size + 1)) #[] #[]] ++ lb, V1, hent, by simp only [resolve, hg]; simp [go_sem], fun _ _ => trivial, by simp [invoke, go_sem, eg], fun _ => h1, ?_⟩
  have putB : ∀ {A : World} {r : Loop} (_ : Bk w.heap.size r A) (o : Obj), Gw Ty w.heap.size A (A.putObj (w.heap.size + 1) o) := fun k o => gw_put (by omega) k.rec' rfl o
  have bkB : ∀ {A B : World} {r : Loop}, Bk w.heap.size r A → Gw Ty V1.heap.size A B → Bk w.heap.size r B := fun k h => ⟨h.same _ _ k.rec' (.inl (by omega)), h.same _ _ k.dfr (.inl (by omega))⟩
  refine (hseq (w.heap.size + 1) (fun pre W => I pre W ∧ Bk w.heap.size (rc .ready none) W) (fun pre W => ∃ c, Ix c pre W ∧ Bk w.heap.size (rc .done (some c)) W) (fun A z => Xi A z ∨ z = w.heap.size + 1) V1 b1 (fun s A B hs hgr => ⟨hI s A B hs.1 (hgr.mono (by omega)), bkB hs.2 hgr⟩) (fun s A B hs hgr => ?_) (fun s A hs z hz => ?c1) (fun s A B hs hgr z hz => ?c2) ?round ⟨i1, k1⟩).mono ?behind
  · obtain ⟨c, hc, kc⟩ := hs
    exact ⟨c, hIx c s A B hc (hgr.mono (by omega)), bkB kc hgr⟩
  case c1 =>
    rcases hz with q | rfl
    · exact hX1 s A hs.1 z q
    · exact ⟨hs.2.lt, fun q => by have := hZs _ q; omega⟩
  case c2 =>
    rcases hz with q | q
    · exact .inl (hX2 s A B hs.1 (hgr.mono (by omega)) z q)
    · exact .inr q
  case round =>
    have kup : ∀ {A B : World}, Kx Xi A B → Kx (fun A z => Xi A z ∨ z = w.heap.size + 1) A B := fun h => ⟨h.1, fun z o hz hx => h.2.1 z o hz (fun q => hx (.inl q)), fun z hz => by
      rcases hz with q | q
      · exact (h.2.2 z q).imp .inl id
      · exact .inl (.inr q)⟩
    have kput : ∀ {s : List α} {A : World} {r : Loop} (_ : I s A) (_ : Bk w.heap.size r A) (o : Obj), Kx (fun A z => Xi A z ∨ z = w.heap.size + 1) A (A.putObj (w.heap.size + 1) o) := fun hi k o => ⟨by simp, fun z x hz hx => (World.putObj_heap_other (fun q => hx (.inr q))).trans hz, fun z hz => by
      rcases hz with q | q
      · exact .inl (.inl (hX2 _ _ _ hi (gw_put (by omega) k.rec' rfl o) z q))
      · exact .inl (.inr q)⟩
    rintro pre x V ⟨hi, hk⟩ hlen
    have hy := run_yield (P := P) (args := encs x) hk.rec' (by rw [hrc]; exact hps x)
    rw [hrc] at hy
    refine ⟨fn, _, assign, body, hy, roundIn_of_wpIn hfn (hassign _ pre x V _ hi ?_)⟩
    intro a' Va f1 f2 f3 f4
    have ka := hk.from f1
    have hlt := ka.lt
    refine ⟨_, run_beginRound ka.rec' (by rw [hrc]), ?_⟩
    have kb := ka.turn { rc .ready none with state := .busy }
    have nb : ∀ (o : Obj), w.heap.size ≤ w.heap.size + 1 := fun _ => by omega
    have g1 := hI _ _ _ f3 (putB ka (.loop { rc .ready none with state := .busy }))
    have g2 := hAx x a' Va _ (.loop { rc .ready none with state := .busy }) f4 ka.rec' rfl
    have g3 := kput f3 ka (.loop { rc .ready none with state := .busy })
    revert kb g1 g2 g3
    generalize Va.putObj (w.heap.size + 1) (.loop { rc .ready none with state := .busy }) = Vb
    intro kb g1 g2 g3
    refine wpIn_mono (hbody (w.heap.size + 1) pre x a' Vb (by omega) ⟨_, kb.rec'⟩ g1 g2 hlen) ?_
    have out : ∀ (c : Code) (V3 : World), KeepsFrom w.heap.size Vb V3 → Kx Xi Vb V3 → Ix c (pre ++ [x]) V3 → ∃ (e : Value) (V4 : World), (Instr.endRound (w.heap.size + 1) (some c)).run P V3 = .ok e V4 ∧ (((.returned e : Ending) = .returned (.bool true) ∧ (I (pre ++ [x]) V4 ∧ Bk w.heap.size (rc .ready none) V4) ∧ Kx (fun A z => Xi A z ∨ z = w.heap.size + 1) V V4) ∨ ((.returned e : Ending) = .returned (.bool false) ∧ (∃ c, Ix c (pre ++ [x]) V4 ∧ Bk w.heap.size (rc .done (some c)) V4))) := fun c V3 hk3 hq3 hi3 => by
      have k3 := kb.from hk3
      have k4 := k3.turn (rc .done (some c))
      have := bk_end (P := P) k3 (some c)
      refine ⟨_, _, this, .inr ⟨rfl, ⟨c, ?_, ?_⟩⟩⟩
      · exact hIx c _ _ _ hi3 (putB k3 _)
      · have e : ({ ({ rc .ready none with state := .busy } : Loop) with state := if (some c).isNone then .ready else .done, pending := some c } : Loop) = rc .done (some c) := by rw [hrc, hrc]; rfl
        rw [e]
        exact k4
    rintro e a3 V3 hp
    cases e with
    | normal =>
      obtain ⟨hk3, hq3, hi3⟩ := hp
      have k3 := kb.from hk3
      have k4 := k3.turn (rc .ready none)
      have hr := bk_end (P := P) k3 none
      have e : ({ ({ rc .ready none with state := .busy } : Loop) with state := if (none : Option Code).isNone then .ready else .done, pending := none } : Loop) = rc .ready none := by rw [hrc]; rfl
      rw [e] at hr
      exact ⟨_, _, hr, .inl ⟨rfl, ⟨hI _ _ _ hi3 (putB k3 _), k4⟩, (kup f2).trans (g3.trans ((kup hq3).trans (kput hi3 k3 _)))⟩⟩
    | ret => exact out _ _ hp.1 hp.2.1 hp.2.2
    | exit id => exact out _ _ hp.1 hp.2.1 hp.2.2
    | goto t => exact out _ _ hp.1 hp.2.1 hp.2.2
    | panic ch => exact hp.elim
    | outgrown => exact hp.elim
  case behind =>
    rintro e V2 ⟨⟨v, rfl⟩, (⟨xs, hS, hi, hk⟩ | ⟨pre, hSp, c, hi, hk⟩)⟩
    · have hr := run_endLoop (P := P) hk.rec' (by rw [hrc]; simp)
      have kt := hk.turn { rc .ready none with state := .exhausted }
      exact ⟨_, _, by rw [hr], by rw [hrc]; exact hdone _ xs _ (Nat.le_refl _) hS (hI _ _ _ hi (putB hk _)) (by rw [hrc] at kt; exact kt.dfr)⟩
    · have hr := run_endLoop (P := P) hk.rec' (by rw [hrc]; simp)
      have kt := hk.turn { rc .done (some c) with state := .exhausted }
      exact ⟨_, _, by rw [hr], by rw [hrc]; exact hstop _ c pre _ (Nat.le_refl _) hSp (hIx c _ _ _ hi (putB hk _)) (by rw [hrc] at kt; exact kt.dfr)⟩
end
end Go.Proofs.YtpiicdpipjjenaaGreatDoor
namespace Go.Proofs.YtpiicdpipjjenaaGreatDoor
open Go.RowKit Go.Shelf
set_option linter.unusedSimpArgs false
set_option linter.unusedVariables false

section
variable {P : Program}
end
end Go.Proofs.YtpiicdpipjjenaaGreatDoor
namespace Go.Proofs.YtpiicdpipjjenaaGreatDoor
open Go.RowKit Go.Shelf
set_option linter.unusedSimpArgs false
set_option linter.unusedVariables false
attribute [local go_sem] Oper.semAt_some

theorem hidX {p : Prop} (h : p) : Hid p := h
end Go.Proofs.YtpiicdpipjjenaaGreatDoor
