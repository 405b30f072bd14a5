/-
  Part 23 of the proof: 3 texts, one behind the other.
-/
import Derived.Test.YtjgpbahglkaijaaPart22
import Derived.Test.YtjgpbahglkaijaaPart1
import Derived.Test.YtjgpbahglkaijaaPart18
import Derived.Deep.QuietTactic
import Derived.BigQuiet
namespace Go.Proofs.Ytjgpbahglkaijaa
open Go.RowKit
set_option linter.unusedSimpArgs false
set_option linter.unusedVariables false

theorem enG_at (l : List Nat) (en : Int) : ∀ (r : Nat) (es : List (Int × Int)), (enG l en r es.length es).2.1 = 0 → (∀ (j : Nat) (e : Int × Int), es[j]? = some e → dcE l (en + (j : Int)) = 0 ∧ e = ((dcI l (en + (j : Int))).op, (dcI l (en + (j : Int))).n)) →
    ∀ (j : Nat) (e : Int × Int), (enG l en r es.length es).1[j]? = some e → dcE l (en + (j : Int)) = 0 ∧ e = ((dcI l (en + (j : Int))).op, (dcI l (en + (j : Int))).n)
  | 0, es, h, h0 => h0
  | r + 1, es, h, h0 => by
    rw [enG_succ] at h ⊢
    by_cases c : enE l (en + (es.length : Int)) es = 0
    · rw [if_pos c] at h ⊢
      have c1 : dcE l (en + (es.length : Int)) = 0 := by
        by_cases q : dcE l (en + (es.length : Int)) = 0
        · exact q
        · have c' := c
          unfold enE at c'
          rw [if_pos q] at c'
          exact c'
      have := enG_at l en r (es ++ [((dcI l (en + (es.length : Int))).op, (dcI l (en + (es.length : Int))).n)]) (by rw [List.length_append, List.length_singleton]; exact h) (fun j e hj => by
        by_cases q : j < es.length
        · rw [List.getElem?_append_left q] at hj
          exact h0 j e hj
        · have hl := (List.getElem?_eq_some_iff.mp hj).1
          rw [List.length_append, List.length_singleton] at hl
          have hj2 : j = es.length := by omega
          subst hj2
          rw [List.getElem?_append_right (Nat.le_refl _), Nat.sub_self] at hj
          simp at hj
          subst hj
          exact ⟨c1, rfl⟩)
      rw [List.length_append, List.length_singleton] at this
      exact this
    · rw [if_neg c] at h
      exact absurd h c
def BkS (l : List Nat) (b : PB) : Prop := (bkE l b.a).1 = 0 ∧ b = (blkD l b.a).pb
def ejN (m : List (BitVec 32)) (num : Int) : Nat := cnt m (num.toNat + 1) - 1
theorem cnt_one {m : List (BitVec 32)} (h : plc m 0 = true) (n : Nat) : 1 ≤ cnt m (n + 1) := by
  have h1 := cnt_mono m (0 + 1) (n + 1) (by omega)
  have e : cnt m (0 + 1) = cnt m 0 + (plc m 0).toNat := rfl
  rw [h] at e
  have e1 : true.toNat = 1 := rfl
  omega
set_option maxHeartbeats 4000000 in
theorem three18 {F : Int} {x : BitVec 128} {l : List Nat} (hx : ∀ b ∈ l, b < 256) {b : PB} (hS : BkS l b) {m : Mc} (hen : m.en = false) (hpl : m.pl = b.a) (hF : m.bt + b.t ≤ F) (h0 : 0 ≤ b.t) (h24 : b.t ≤ 24) (hmap : isMapB b.m b.t.toNat = true) (hl : b.es.length = sumW b.m b.m.length) :
    ∃ (e : Bool × Int) (m' : Mc), b.es[ejN b.m (fdN x m.bt b.t)]? = some e ∧ goM F x l 3 m = m' ∧ m'.err = m.err ∧ m'.st = m.st + 3 ∧ m'.ex = m.ex + 1 ∧ m'.ix = m.ix + 1 ∧ m'.bt = m.bt + b.t ∧ (e.1 = true → m'.en = false ∧ m'.pl = e.2) ∧ (e.1 = false → m'.en = true ∧ m'.hop = e.2) := by
  obtain ⟨hk, hb⟩ := hS
  obtain ⟨c1, c2, c3, c4, c5, c6⟩ := bk_okd hk
  have hf : EnF (b.a + 1 + dcZ l (b.a + 1)) (enG l (b.a + 1 + dcZ l (b.a + 1)) (sumW (dcI l (b.a + 1)).m (dcI l (b.a + 1)).m.length) 0 []).1 := enG_f l hx (b.a + 1 + dcZ l (b.a + 1)) (sumW (dcI l (b.a + 1)).m (dcI l (b.a + 1)).m.length) [] ⟨fun e he => (by cases he), fun j x y h1 => (by simp [prE] at h1)⟩ c6
  have hat : ∀ (j : Nat) (e : Int × Int), (enG l (b.a + 1 + dcZ l (b.a + 1)) (sumW (dcI l (b.a + 1)).m (dcI l (b.a + 1)).m.length) 0 []).1[j]? = some e → dcE l (b.a + 1 + dcZ l (b.a + 1) + (j : Int)) = 0 ∧ e = ((dcI l (b.a + 1 + dcZ l (b.a + 1) + (j : Int))).op, (dcI l (b.a + 1 + dcZ l (b.a + 1) + (j : Int))).n) := enG_at l (b.a + 1 + dcZ l (b.a + 1)) (sumW (dcI l (b.a + 1)).m (dcI l (b.a + 1)).m.length) [] c6 (fun j e hj => by simp at hj)
  have ht : (dcI l b.a).n = b.t := (congrArg PB.t hb).symm
  have hm : (dcI l (b.a + 1)).m = b.m := (congrArg PB.m hb).symm
  have hes : b.es = prE (b.a + 1 + dcZ l (b.a + 1)) (enG l (b.a + 1 + dcZ l (b.a + 1)) (sumW (dcI l (b.a + 1)).m (dcI l (b.a + 1)).m.length) 0 []).1 := congrArg PB.es hb
  generalize (enG l (b.a + 1 + dcZ l (b.a + 1)) (sumW (dcI l (b.a + 1)).m (dcI l (b.a + 1)).m.length) 0 []).1 = es at *
  obtain ⟨num, hnum⟩ : ∃ num, num = fdN x m.bt b.t := ⟨_, rfl⟩
  have n0 : 0 ≤ num := by rw [hnum]; exact fdN_lo x m.bt b.t
  have n1 : num < 2 ^ b.t.toNat := by rw [hnum]; exact fdN_hi x m.bt b.t h0 h24
  obtain ⟨p1, p2⟩ := plc_first b.m b.t.toNat hmap
  obtain ⟨q1, q2⟩ := cnt_map b.m b.t.toNat hmap
  have n2 : num < 32 * (b.m.length : Int) := by
    have h3 : (((2 ^ b.t.toNat : Nat)) : Int) = 2 ^ b.t.toNat := by norm_cast
    rw [← h3] at n1
    omega
  have hc1 := cnt_one p1 num.toNat
  have hc2 := cnt_mono b.m (num.toNat + 1) (32 * b.m.length) (by omega)
  rw [cnt_words] at hc2
  have hj : ejN b.m num < b.es.length := by unfold ejN; omega
  have hjl : ejN b.m num < es.length := by rw [hes, prE_len] at hj; exact hj
  have hg := prE_get (b.a + 1 + dcZ l (b.a + 1)) es (ejN b.m num) es[ejN b.m num] (List.getElem?_eq_getElem hjl)
  rw [← hes] at hg
  obtain ⟨a1, a2⟩ := hat (ejN b.m num) es[ejN b.m num] (List.getElem?_eq_getElem hjl)
  have ho := hf.o es[ejN b.m num] (List.getElem_mem hjl)
  rw [a2] at hg ho
  dsimp only at ho
  have hjp : b.a + 1 + dcZ l (b.a + 1) + (cnt b.m (num.toNat + 1) : Int) - 1 = b.a + 1 + dcZ l (b.a + 1) + (ejN b.m num : Int) := by unfold ejN; omega
  have e1 : stM F x l m = { m with ex := m.ex + 1, bt := m.bt + b.t, pl := b.a + 1, hb := b.t, hn := num, st := m.st + 1 } := by
    rw [stM_ok (by rw [hpl]; exact c1) (by rw [hpl]; unfold doE; rw [if_pos c2]; unfold exE; rw [if_neg (by rw [ht]; omega)])]
    rw [hpl]
    unfold doM
    rw [if_pos c2]
    unfold exM
    rw [if_neg (by rw [ht]; omega), ht, hnum, hpl]
  have e2 : stM F x l { m with ex := m.ex + 1, bt := m.bt + b.t, pl := b.a + 1, hb := b.t, hn := num, st := m.st + 1 } = { m with ex := m.ex + 1, bt := m.bt + b.t, ix := m.ix + 1, pl := b.a + 1 + dcZ l (b.a + 1) + (ejN b.m num : Int), hb := 0, hn := 0, st := m.st + 1 + 1 } := by
    have hr : rkE (dcI l (b.a + 1)).m num = 0 := by unfold rkE; rw [hm, if_pos ⟨n0, n2⟩]
    have hr2 : rkN (dcI l (b.a + 1)).m num = cnt b.m (num.toNat + 1) := by unfold rkN; rw [hm, if_pos ⟨n0, n2⟩]
    have hbn : b.t = (dcI l (b.a + 1)).n := by rw [c5, ht]
    rw [stM_ok (by exact c3) (by
      unfold doE
      dsimp only
      rw [if_neg (by rw [c4]; decide), if_pos c4]
      unfold ixE
      dsimp only
      rw [if_pos hbn, hr])]
    unfold doM
    dsimp only
    rw [if_neg (by rw [c4]; decide), if_pos c4]
    unfold ixM
    dsimp only
    rw [if_pos ⟨hbn, hr⟩, hr2, hjp]
  have hgo : ∀ m1 m2, stM F x l m = m1 → m1.en = false → stM F x l m1 = m2 → m2.en = false → goM F x l 3 m = stM F x l m2 := fun m1 m2 h1 h2 h3 h4 => by
    rw [goM_go hen, h1, goM_go h2, h3, goM_go h4]; rfl
  rw [hgo _ _ e1 hen e2 hen]
  rw [← hnum]
  rcases ho with ⟨o3, on⟩ | ⟨o4, on, -⟩
  · refine ⟨_, _, hg, rfl, ?_⟩
    rw [stM_ok (by exact a1) (by
      unfold doE
      dsimp only
      rw [if_neg (by rw [o3]; decide), if_neg (by rw [o3]; decide)])]
    unfold doM
    dsimp only
    rw [if_neg (by rw [o3]; decide), if_neg (by rw [o3]; decide), if_pos o3]
    refine ⟨rfl, by show m.st + 1 + 1 + 1 = m.st + 3; omega, rfl, rfl, rfl, fun _ => ⟨hen, ?_⟩, fun q => ?_⟩
    · unfold prX
      dsimp only
      rw [o3]; rfl
    · unfold prX at q
      dsimp only at q
      rw [o3] at q
      exact absurd q (by decide)
  · refine ⟨_, _, hg, rfl, ?_⟩
    rw [stM_ok (by exact a1) (by
      unfold doE
      dsimp only
      rw [if_neg (by rw [o4]; decide), if_neg (by rw [o4]; decide)])]
    unfold doM
    dsimp only
    rw [if_neg (by rw [o4]; decide), if_neg (by rw [o4]; decide), if_neg (by rw [o4]; decide), if_pos o4]
    refine ⟨rfl, by show m.st + 1 + 1 + 1 = m.st + 3; omega, rfl, rfl, rfl, fun q => ?_, fun _ => ⟨rfl, ?_⟩⟩
    · unfold prX at q
      dsimp only at q
      rw [o4] at q
      exact absurd q (by decide)
    · unfold prX
      dsimp only
      rw [o4]; rfl
theorem set_getD (A : List (Int × Int)) (k i : Nat) (v : Int × Int) : (A.set k v).getD i (0, 0) = if k = i ∧ k < A.length then v else A.getD i (0, 0) := by
  rw [List.getD_eq_getElem?_getD, List.getElem?_set, List.getD_eq_getElem?_getD]
  by_cases c : k = i
  · subst c
    by_cases d : k < A.length
    · rw [if_pos rfl, if_pos d, if_pos ⟨rfl, d⟩]; rfl
    · rw [if_pos rfl, if_neg d, if_neg (fun q => d q.2), List.getElem?_eq_none (by omega)]
  · rw [if_neg c, if_neg (fun q => c q.1)]
theorem up_ge (B M : Int) (A : List (Int × Int)) (e : Bool × Int) (i : Nat) : (A.getD i (0, 0)).1 ≤ ((upX B M A e).getD i (0, 0)).1 ∧ (A.getD i (0, 0)).2 ≤ ((upX B M A e).getD i (0, 0)).2 := by
  unfold upX
  split
  · rw [set_getD]
    split
    · rename_i c
      rw [c.1]
      exact ⟨Int.le_max_left _ _, Int.le_max_left _ _⟩
    · exact ⟨Int.le_refl _, Int.le_refl _⟩
  · exact ⟨Int.le_refl _, Int.le_refl _⟩
theorem upF_ge (B M : Int) : ∀ (es : List (Bool × Int)) (A : List (Int × Int)) (i : Nat), (A.getD i (0, 0)).1 ≤ ((es.foldl (upX B M) A).getD i (0, 0)).1 ∧ (A.getD i (0, 0)).2 ≤ ((es.foldl (upX B M) A).getD i (0, 0)).2
  | [], A, i => ⟨Int.le_refl _, Int.le_refl _⟩
  | e :: t, A, i => by
    have h1 := up_ge B M A e i
    have h2 := upF_ge B M t (upX B M A e) i
    rw [List.foldl_cons]
    exact ⟨Int.le_trans h1.1 h2.1, Int.le_trans h1.2 h2.2⟩
theorem upF_at (B M : Int) : ∀ (es : List (Bool × Int)) (A : List (Int × Int)) (e : Bool × Int), e ∈ es → e.1 = true → e.2.toNat < A.length → B ≤ ((es.foldl (upX B M) A).getD e.2.toNat (0, 0)).1 ∧ M ≤ ((es.foldl (upX B M) A).getD e.2.toNat (0, 0)).2
  | [], A, e, h, _, _ => by cases h
  | x :: t, A, e, h, h1, h2 => by
    rw [List.foldl_cons]
    rcases List.mem_cons.mp h with rfl | q
    · have h3 := upF_ge B M t (upX B M A e) e.2.toNat
      have h4 : (upX B M A e).getD e.2.toNat (0, 0) = (max (A.getD e.2.toNat (0, 0)).1 B, max (A.getD e.2.toNat (0, 0)).2 M) := by
        unfold upX
        rw [if_pos h1, set_getD, if_pos ⟨rfl, h2⟩]
      rw [h4] at h3
      exact ⟨Int.le_trans (Int.le_max_right _ _) h3.1, Int.le_trans (Int.le_max_right _ _) h3.2⟩
    · exact upF_at B M t _ e q h1 (by rw [upX_len]; exact h2)
theorem ms_val (F : Int) (N : Nat) : ∀ (t : List PB) (k : Nat) (A : List (Int × Int)) (dp : Int), A.length = N → (∀ (i : Nat) (b : PB), t[i]? = some b → ∀ e ∈ b.es, e.1 = true → ((k + i : Nat) : Int) < e.2 ∧ e.2 < (N : Int)) → (msG F t k A dp).2.2 = 0 →
    ∃ V : Nat → Int × Int, (∀ i, k ≤ i → (A.getD i (0, 0)).1 ≤ (V i).1 ∧ (A.getD i (0, 0)).2 ≤ (V i).2) ∧ dp ≤ (msG F t k A dp).1 ∧ ∀ (i : Nat) (b : PB), t[i]? = some b → (V (k + i)).2 + b.t ≤ F ∧ (V (k + i)).1 + 1 ≤ (msG F t k A dp).1 ∧ ∀ e ∈ b.es, e.1 = true → (V (k + i)).1 + 1 ≤ (V e.2.toNat).1 ∧ (V (k + i)).2 + b.t ≤ (V e.2.toNat).2
  | [], k, A, dp, _, _, _ => ⟨fun i => A.getD i (0, 0), fun i _ => ⟨Int.le_refl _, Int.le_refl _⟩, Int.le_refl _, fun i b h => by simp at h⟩
  | b :: t, k, A, dp, hA, hf, h => by
    unfold msG at h ⊢
    by_cases c : F < (A.getD k (0, 0)).2 + b.t
    · rw [if_pos c] at h; exact absurd h (by simp)
    rw [if_neg c] at h ⊢
    obtain ⟨V, h1, h2, h3⟩ := ms_val F N t (k + 1) _ _ (by rw [upF_len]; exact hA) (fun i d hd e he q => by
      have := hf (i + 1) d (by simpa using hd) e he q
      rw [show k + 1 + i = k + (i + 1) by omega]
      exact this) h
    refine ⟨fun i => if i = k then A.getD k (0, 0) else V i, fun i hi => ?_, Int.le_trans (Int.le_max_left _ _) h2, fun i d hd => ?_⟩
    · dsimp only
      by_cases q : i = k
      · rw [if_pos q, q]; exact ⟨Int.le_refl _, Int.le_refl _⟩
      · rw [if_neg q]
        have a := upF_ge ((A.getD k (0, 0)).1 + 1) ((A.getD k (0, 0)).2 + b.t) b.es A i
        have b := h1 i (by omega)
        exact ⟨Int.le_trans a.1 b.1, Int.le_trans a.2 b.2⟩
    · cases i with
      | zero =>
        simp at hd
        subst hd
        dsimp only
        rw [Nat.add_zero, if_pos rfl]
        refine ⟨by omega, Int.le_trans (Int.le_max_right _ _) h2, fun e he q => ?_⟩
        have hb := hf 0 b rfl e he q
        rw [Nat.add_zero] at hb
        rw [if_neg (by omega)]
        have a := upF_at ((A.getD k (0, 0)).1 + 1) ((A.getD k (0, 0)).2 + b.t) b.es A e he q (by omega)
        have d := h1 e.2.toNat (by omega)
        exact ⟨Int.le_trans a.1 d.1, Int.le_trans a.2 d.2⟩
      | succ i =>
        have hd' : t[i]? = some d := by simpa using hd
        have r := h3 i d hd'
        dsimp only
        rw [if_neg (by omega), show k + (i + 1) = k + 1 + i by omega]
        refine ⟨r.1, r.2.1, fun e he q => ?_⟩
        have hb := hf (i + 1) d hd e he q
        rw [if_neg (by omega)]
        exact r.2.2 e he q
end Go.Proofs.Ytjgpbahglkaijaa
namespace Go.Proofs.Ytjgpbahglkaijaa
open Go.RowKit
set_option linter.unusedSimpArgs false
set_option linter.unusedVariables false

def hdN (r : List Rn) (y : BitVec 128) : Nat := ((r.drop 1).takeWhile (fun q => decide (q.f.toNat ≤ y.toNat))).length
def walkR (x : BitVec 128) (L : List Nde) : Nat → Nat → Int → Int
  | 0, _, _ => 0
  | f + 1, k, met => if ((L.getD k ⟨0, []⟩).r.getD (hdN (L.getD k ⟨0, []⟩).r (readW x met (L.getD k ⟨0, []⟩).b)) ⟨0#128, false, 0⟩).k = true then walkR x L f ((L.getD k ⟨0, []⟩).r.getD (hdN (L.getD k ⟨0, []⟩).r (readW x met (L.getD k ⟨0, []⟩).b)) ⟨0#128, false, 0⟩).n.toNat (met + (L.getD k ⟨0, []⟩).b)
    else ((L.getD k ⟨0, []⟩).r.getD (hdN (L.getD k ⟨0, []⟩).r (readW x met (L.getD k ⟨0, []⟩).b)) ⟨0#128, false, 0⟩).n
theorem walk_succ (x : BitVec 128) (L : List Nde) (f k : Nat) (met : Int) : walkR x L (f + 1) k met = if ((L.getD k ⟨0, []⟩).r.getD (hdN (L.getD k ⟨0, []⟩).r (readW x met (L.getD k ⟨0, []⟩).b)) ⟨0#128, false, 0⟩).k = true then walkR x L f ((L.getD k ⟨0, []⟩).r.getD (hdN (L.getD k ⟨0, []⟩).r (readW x met (L.getD k ⟨0, []⟩).b)) ⟨0#128, false, 0⟩).n.toNat (met + (L.getD k ⟨0, []⟩).b)
    else ((L.getD k ⟨0, []⟩).r.getD (hdN (L.getD k ⟨0, []⟩).r (readW x met (L.getD k ⟨0, []⟩).b)) ⟨0#128, false, 0⟩).n := rfl
theorem setL_ge (m : List (BitVec 32)) (p : Nat) : ∀ x ∈ setL m p, ∃ i : Nat, x = (i : Int) ∧ p ≤ i ∧ i < 32 * m.length := by
  intro x hx
  unfold setL at hx
  obtain ⟨i, hi, rfl⟩ := List.mem_map.mp hx
  have := List.mem_range'_1.mp (List.mem_filter.mp hi).1
  exact ⟨i, rfl, by omega, by omega⟩
theorem tw_none (m : List (BitVec 32)) (y : BitVec 128) (p : Nat) (es : List (Bool × Int)) (h : y.toNat < p) (hm : 32 * m.length < 1099511627776) : ((setL m p).zipWith rnZ es).takeWhile (fun q => decide (q.f.toNat ≤ y.toNat)) = [] := by
  cases hz : (setL m p).zipWith rnZ es with
  | nil => rfl
  | cons r t =>
    have hr : r ∈ (setL m p).zipWith rnZ es := by rw [hz]; simp
    obtain ⟨x, hx, e, he, rfl⟩ := mem_zip hr
    obtain ⟨i, rfl, h1, h2⟩ := setL_ge m p x hx
    rw [List.takeWhile_cons, if_neg]
    have : (rnZ (i : Int) e).f.toNat = i := toNat_mk i (by omega)
    rw [this]
    simp
    omega
theorem tw_cnt (m : List (BitVec 32)) (y : BitVec 128) (hm : 32 * m.length < 1099511627776) (hy : y.toNat < 32 * m.length) : ∀ (n p : Nat) (es : List (Bool × Int)), p + n = 32 * m.length → p ≤ y.toNat + 1 → (setL m p).length ≤ es.length → (((setL m p).zipWith rnZ es).takeWhile (fun q => decide (q.f.toNat ≤ y.toNat))).length + cnt m p = cnt m (y.toNat + 1)
  | 0, p, es, h, hp, hl => by
    have : p = y.toNat + 1 := by omega
    rw [tw_none m y p es (by omega) hm, this]
    simp
  | n + 1, p, es, h, hp, hl => by
    by_cases c : p = y.toNat + 1
    · rw [tw_none m y p es (by omega) hm, c]
      simp
    · have e : cnt m (p + 1) = cnt m p + (plc m p).toNat := rfl
      have hs := setL_step (m := m) (p := p) (by omega)
      cases hpl : plc m p with
      | false =>
        rw [hpl] at e hs
        rw [if_neg (by simp)] at hs
        rw [hs] at hl ⊢
        have ih := tw_cnt m y hm hy n (p + 1) es (by omega) (by omega) hl
        have e1 : false.toNat = 0 := rfl
        omega
      | true =>
        rw [hpl] at e hs
        rw [if_pos rfl] at hs
        rw [hs] at hl ⊢
        cases es with
        | nil => simp at hl
        | cons z t =>
          have ih := tw_cnt m y hm hy n (p + 1) t (by omega) (by omega) (by simpa using hl)
          rw [List.zipWith_cons_cons, List.takeWhile_cons, if_pos, List.length_cons]
          · have e1 : true.toNat = 1 := rfl
            omega
          · have : (rnZ (p : Int) z).f.toNat = p := toNat_mk p (by omega)
            rw [this]
            simp
            omega
theorem rd_nat (x : BitVec 128) (f n : Int) (h0 : 0 ≤ n) (h1 : n ≤ 24) : (readW x f n).toNat = (fdN x f n).toNat := by
  unfold fdN
  rw [lIN, Int.toNat_natCast]
  unfold readW
  obtain ⟨k, rfl⟩ : ∃ k : Nat, n = (k : Int) := ⟨n.toNat, by omega⟩
  have e : (128 - (k : Int)).toNat = 128 - k := by omega
  rw [e]
  generalize x <<< f.toNat = y
  have h : (y >>> (128 - k)).toNat < 2 ^ k := by
    rw [BitVec.toNat_ushiftRight, Nat.shiftRight_eq_div_pow, Nat.div_lt_iff_lt_mul (Nat.two_pow_pos _), ← Nat.pow_add, show k + (128 - k) = 128 by omega]
    exact y.isLt
  have hp : 2 ^ k ≤ 2 ^ 24 := Nat.pow_le_pow_right (by decide) (by omega)
  exact (Nat.mod_eq_of_lt (by omega)).symm
theorem hd_runs (x : BitVec 128) (f : Int) (m : List (BitVec 32)) (es : List (Bool × Int)) (T : Int) (h0 : 0 ≤ T) (h24 : T ≤ 24) (hmap : isMapB m T.toNat = true) (hl : es.length = sumW m m.length) (hm : m.length ≤ 1000000) (e : Bool × Int) (he : es[ejN m (fdN x f T)]? = some e) :
    ((runsV m es).getD (hdN (runsV m es) (readW x f T)) ⟨0#128, false, 0⟩).k = e.1 ∧ ((runsV m es).getD (hdN (runsV m es) (readW x f T)) ⟨0#128, false, 0⟩).n = e.2 := by
  have n0 := fdN_lo x f T
  have n1 := fdN_hi x f T h0 h24
  have hy := rd_nat x f T h0 h24
  obtain ⟨p1, p2⟩ := plc_first m T.toNat hmap
  obtain ⟨q1, q2⟩ := cnt_map m T.toNat hmap
  have n2 : (readW x f T).toNat < 32 * m.length := by
    have h3 : (((2 ^ T.toNat : Nat)) : Int) = 2 ^ T.toNat := by norm_cast
    rw [← h3] at n1
    omega
  have hS : (setL m 0).length = es.length := by rw [setL_all, hl]
  have hs0 : setL m 0 = 0 :: setL m 1 := by rw [setL_step (by omega), if_pos p1]; rfl
  have hd : (runsV m es).drop 1 = (setL m 1).zipWith rnZ (es.drop 1) := by
    rw [runsV_eq, hs0]
    cases es with
    | nil => rw [hs0] at hS; simp at hS
    | cons z t => rfl
  have hc := tw_cnt m (readW x f T) (by omega) n2 (32 * m.length - 1) 1 (es.drop 1) (by omega) (by omega) (by rw [List.length_drop, ← hS, hs0]; simp)
  have e1 : cnt m 1 = 1 := by
    have e : cnt m (0 + 1) = cnt m 0 + (plc m 0).toNat := rfl
    rw [p1] at e
    exact e
  have hN : hdN (runsV m es) (readW x f T) = ejN m (fdN x f T) := by
    unfold hdN ejN
    rw [hd]
    rw [hy] at hc
    rw [hy]
    omega
  rw [hN]
  have hj := (List.getElem?_eq_some_iff.mp he).1
  have hg : (runsV m es)[ejN m (fdN x f T)]? = some (rnZ ((setL m 0)[ejN m (fdN x f T)]'(by omega)) e) := by
    rw [runsV_eq, List.getElem?_zipWith, he, List.getElem?_eq_getElem (by omega)]
  rw [List.getD_eq_getElem?_getD, hg]
  exact ⟨rfl, rfl⟩
theorem run_from {F : Int} {x : BitVec 128} {l : List Nat} (hx : ∀ b ∈ l, b < 256) {P0 : List PB} (hs : (P0.map PB.a).Pairwise (· < ·)) (hB : ∀ b ∈ P0, BkS l b) (hR : ∀ b ∈ P0, PbR b) (hlk : ∀ b ∈ P0, ∀ e ∈ b.es, e.1 = true → fnB (P0.map PB.a) e.2 ≠ -1)
    (hl : ∀ b ∈ P0, b.es.length = sumW b.m b.m.length ∧ 1 ≤ b.t ∧ b.t ≤ 24 ∧ b.m.length ≤ 1000000) (V : Nat → Int × Int) (dp : Int)
    (hV : ∀ (i : Nat) (b : PB), (P0.map (lkB (P0.map PB.a)))[i]? = some b → (V i).2 + b.t ≤ F ∧ (V i).1 + 1 ≤ dp ∧ ∀ e ∈ b.es, e.1 = true → (V i).1 + 1 ≤ (V e.2.toNat).1 ∧ (V i).2 + b.t ≤ (V e.2.toNat).2) :
    ∀ (f k : Nat) (m : Mc) (b : PB), P0[k]? = some b → P0.length ≤ k + f → m.en = false → m.pl = b.a → 0 ≤ m.bt → m.bt ≤ (V k).2 → m.ex ≤ (V k).1 → m.ix ≤ (V k).1 → m.st ≤ 3 * (V k).1 →
      ∃ (c : Nat) (m' : Mc), c ≤ 3 * f ∧ goM F x l c m = m' ∧ m'.en = true ∧ m'.err = m.err ∧ m'.st ≤ 3 * dp ∧ m'.ex ≤ dp ∧ m'.ix ≤ dp ∧ m'.bt ≤ F ∧ m'.hop = walkR x (ndsL (P0.map (lkB (P0.map PB.a)))) f k m.bt
  | 0, k, m, b, hk, hn, _, _, _, _, _, _, _ => by
    have := (List.getElem?_eq_some_iff.mp hk).1
    omega
  | f + 1, k, m, b, hk, hn, hen, hpl, hb0, hb1, hex, hix, hst => by
    have hbm := List.mem_of_getElem? hk
    obtain ⟨l1, l2, l3, l4⟩ := hl b hbm
    obtain ⟨r1, r2, r3⟩ := hR b hbm
    have hkL : (P0.map (lkB (P0.map PB.a)))[k]? = some (lkB (P0.map PB.a) b) := by rw [List.getElem?_map, hk]; rfl
    obtain ⟨v1, v2, v3⟩ := hV k _ hkL
    have v1' : (V k).2 + b.t ≤ F := v1
    obtain ⟨e, m', he, hgo, g1, g2, g3, g4, g5, g6, g7⟩ := three18 (F := F) (x := x) hx (hB b hbm) hen hpl (by omega) (by omega) l3 r1 l1
    have hem := List.mem_of_getElem? he
    have hd : (ndsL (P0.map (lkB (P0.map PB.a)))).getD k ⟨0, []⟩ = ⟨b.t, runsV b.m (b.es.map (lkX (P0.map PB.a)))⟩ := by
      unfold ndsL
      rw [List.getD_eq_getElem?_getD, List.getElem?_map, hkL]; rfl
    have he2 : (b.es.map (lkX (P0.map PB.a)))[ejN b.m (fdN x m.bt b.t)]? = some (lkX (P0.map PB.a) e) := by rw [List.getElem?_map, he]; rfl
    obtain ⟨h1, h2⟩ := hd_runs x m.bt b.m (b.es.map (lkX (P0.map PB.a))) b.t (by omega) l3 r1 (by rw [List.length_map]; exact l1) l4 _ he2
    have hw : walkR x (ndsL (P0.map (lkB (P0.map PB.a)))) (f + 1) k m.bt = if (lkX (P0.map PB.a) e).1 = true then walkR x (ndsL (P0.map (lkB (P0.map PB.a)))) f (lkX (P0.map PB.a) e).2.toNat (m.bt + b.t) else (lkX (P0.map PB.a) e).2 := by
      rw [walk_succ, hd]
      dsimp only
      rw [h1, h2]
    obtain ⟨eb, en⟩ := e
    cases eb with
    | false =>
      obtain ⟨k1, k2⟩ := g7 rfl
      refine ⟨3, m', by omega, hgo, k1, g1, by omega, by omega, by omega, by omega, ?_⟩
      rw [hw, k2]
      rfl
    | true =>
      obtain ⟨k1, k2⟩ := g6 rfl
      dsimp only at k2
      obtain ⟨i, i1, i2⟩ := fn_some hs (hlk b hbm _ hem rfl)
      dsimp only at i1 i2
      have hlx : lkX (P0.map PB.a) (true, en) = (true, (i : Int)) := by
        show (true, fnB (P0.map PB.a) en) = _
        rw [i2]
      rw [hlx] at hw he2
      rw [if_pos rfl] at hw
      dsimp only at hw
      rw [Int.toNat_natCast] at hw
      have hv := v3 (true, (i : Int)) (by
        show (true, (i : Int)) ∈ b.es.map (lkX (P0.map PB.a))
        exact List.mem_of_getElem? he2) rfl
      dsimp only at hv
      rw [Int.toNat_natCast] at hv
      have hv2 : (V k).2 + b.t ≤ (V i).2 := hv.2
      rw [List.getElem?_map] at i1
      cases hb2 : P0[i]? with
      | none => rw [hb2] at i1; cases i1
      | some b2 =>
        rw [hb2] at i1
        injection i1 with i1
        have hki : k < i := by
          have hlt : b.a < en := (r3 _ hem).1 rfl
          have a1 : (P0.map PB.a)[k]? = some b.a := by rw [List.getElem?_map, hk]; rfl
          have a2 : (P0.map PB.a)[i]? = some en := by rw [List.getElem?_map, hb2]; exact congrArg some i1
          obtain ⟨j1, j2⟩ := List.getElem?_eq_some_iff.mp a1
          obtain ⟨j3, j4⟩ := List.getElem?_eq_some_iff.mp a2
          by_cases q : i < k
          · have := List.pairwise_iff_getElem.mp hs i k j3 j1 q
            omega
          · by_cases q2 : i = k
            · subst q2; omega
            · omega
        obtain ⟨c, m'', c1, c2, c3, c4, c5, c6, c7, c8, c9⟩ := run_from hx hs hB hR hlk hl V dp hV f i m' b2 hb2 (by omega) k1 (by rw [k2]; exact i1.symm) (by omega) (by omega) (by omega) (by omega) (by omega)
        refine ⟨3 + c, m'', by omega, ?_, c3, by rw [c4, g1], c5, c6, c7, c8, ?_⟩
        · rw [goM_add, hgo, c2]
        · rw [hw, c9, g5]
theorem bsG_pre (l : List Nat) : ∀ (f : Nat) (a : Int) (P : List PB), 0 ≤ a → a < wds l → wds l - a ≤ (f : Int) → (bsG l f a P).2.2 = 0 → ∃ t, (bsG l f a P).1 = P ++ (blkD l a).pb :: t
  | 0, a, P, h0, h1, h2, h => by omega
  | f + 1, a, P, h0, h1, h2, h => by
    by_cases c : (bkE l a).1 = 0
    · rw [bs_ok c] at h ⊢
      obtain ⟨c1, c2, c3, c4, c5, c6⟩ := bk_okd c
      have hz := dcZ_zero c3
      by_cases d : a + 1 + dcZ l (a + 1) + ((sumW (dcI l (a + 1)).m (dcI l (a + 1)).m.length : Nat) : Int) < wds l
      · rw [if_pos d] at h ⊢
        obtain ⟨t, ht⟩ := bsG_pre l f _ _ (by omega) d (by omega) h
        rw [ht]
        exact ⟨_, by rw [List.append_assoc]; rfl⟩
      · rw [if_neg d]
        exact ⟨[], rfl⟩
    · rw [bs_err c] at h
      exact absurd h c
theorem runs_ok {F : Int} {x : BitVec 128} {l : List Nat} (hx : ∀ b ∈ l, b < 256) (hll : l.length ≤ 65536) (h : (vfR F l).2.2 = 0) (hr : rightE F x = 0) :
    (ruM F x l (rightE F x) 1048576).err = 0 ∧ (ruM F x l (rightE F x) 1048576).st ≤ max 1 (3 * (vfR F l).1) ∧ (ruM F x l (rightE F x) 1048576).ex ≤ (vfR F l).1 ∧ (ruM F x l (rightE F x) 1048576).ix ≤ (vfR F l).1 ∧ (ruM F x l (rightE F x) 1048576).bt ≤ F ∧ (ruM F x l (rightE F x) 1048576).hop = walkR x (trL l) (trL l).length 0 0 := by
  have h0 := h
  have hgo : ∀ (c : Nat) (m' : Mc), c ≤ 1048576 → goM F x l c (mc0 0) = m' → m'.en = true → ruM F x l (rightE F x) 1048576 = m' := fun c m' hc he hen => by
    have : goM F x l 1048576 (mc0 0) = m' := by
      rw [show 1048576 = c + (1048576 - c) by omega, goM_add, he, goM_en hen]
    unfold ruM
    rw [hr, this, if_pos hen]
  have hm0 : mc0 0 = ⟨0, false, 0, 0, 0, 0, 0, 0, 0, 0⟩ := rfl
  unfold vfR at h
  by_cases c1 : F ≠ 32 ∧ F ≠ 128
  · rw [if_pos c1] at h; exact absurd h (by simp)
  rw [if_neg c1] at h
  by_cases c2 : l.length = 0 ∨ l.length % 4 ≠ 0
  · rw [if_pos c2] at h; exact absurd h (by simp)
  rw [if_neg c2] at h
  by_cases hn : dcE l 0 = 0 ∧ (dcI l 0).op = 4
  · rw [if_pos hn] at h
    by_cases c3 : 4 < l.length
    · rw [if_pos c3] at h; exact absurd h (by simp)
    have hv : vfR F l = (0, 0, 0) := by unfold vfR; rw [if_neg c1, if_neg c2, if_pos hn, if_neg c3]
    rw [hv]
    have e1 : goM F x l 1 (mc0 0) = ⟨0, true, (dcI l 0).n, 0, 1, 0, 0, 0, 0, 0⟩ := by
      rw [goM_go rfl]
      show stM F x l (mc0 0) = _
      rw [stM_ok (by exact hn.1) (by
        show doE F (mc0 0) (dcI l 0) = 0
        unfold doE
        rw [if_neg (by rw [hn.2]; decide), if_neg (by rw [hn.2]; decide)])]
      show { doM F x (mc0 0) (dcI l 0) (dcZ l 0) with st := 0 + 1 } = _
      unfold doM
      rw [if_neg (by rw [hn.2]; decide), if_neg (by rw [hn.2]; decide), if_neg (by rw [hn.2]; decide), if_pos hn.2]
      rfl
    rw [hgo 1 _ (by decide) e1 rfl]
    refine ⟨rfl, by dsimp only; omega, Int.le_refl _, Int.le_refl _, by dsimp only; omega, ?_⟩
    unfold trL
    rw [if_pos hn]
    rfl
  · rw [if_neg hn] at h
    obtain ⟨o1, o2⟩ := vfP_ok h0 hn
    have hv : vfR F l = vfB F l := by unfold vfR; rw [if_neg c1, if_neg c2, if_neg hn]
    rw [hv]
    unfold vfB at h ⊢
    have hw : (0 : Int) < wds l := by unfold wds; omega
    have hw2 : wds l ≤ 16384 := by unfold wds; omega
    by_cases c3 : (bsG l (l.length / 4) 0 []).2.2 ≠ 0
    · rw [if_pos c3] at h; exact absurd h c3
    have c4 : (bsG l (l.length / 4) 0 []).2.2 = 0 := by simpa using c3
    rw [if_neg c3] at h ⊢
    by_cases c5 : (lkR ((bsG l (l.length / 4) 0 []).1.map PB.a) (bsG l (l.length / 4) 0 []).1).2 ≠ 0
    · rw [if_pos c5] at h; exact absurd h c5
    rw [if_neg c5] at h ⊢
    by_cases c6 : (usR (vfP l)).2 ≠ 0
    · rw [if_pos c6] at h; exact absurd h c6
    rw [if_neg c6] at h ⊢
    obtain ⟨h1, h2⟩ := bsG_ok l (l.length / 4) 0 [] (by omega) hw (by unfold wds; omega) ⟨by simp, fun b hb => (by simp at hb)⟩ (fun b hb => (by simp at hb)) c4
    obtain ⟨t, ht⟩ := bsG_pre l (l.length / 4) 0 [] (by omega) hw (by unfold wds; omega) c4
    have h3 := bsG_all l PbR (blk_r l hx) (l.length / 4) 0 [] (fun b hb => (by simp at hb)) c4
    have h6 := bsG_all l (BkS l) (fun a ha => ⟨ha, rfl⟩) (l.length / 4) 0 [] (fun b hb => (by simp at hb)) c4
    have h7 := bsG_es l (l.length / 4) 0 [] (fun b hb => (by simp at hb)) c4
    have h4 := lk_ok h1 (by simpa using c5)
    have hP : vfP l = (bsG l (l.length / 4) 0 []).1.map (lkB ((bsG l (l.length / 4) 0 []).1.map PB.a)) := rfl
    have hn9 : lkA ((bsG l (l.length / 4) 0 []).1.map PB.a) (bsG l (l.length / 4) 0 []).1 = none := by
      unfold lkR at c5
      cases hq : lkA ((bsG l (l.length / 4) 0 []).1.map PB.a) (bsG l (l.length / 4) 0 []).1 with
      | none => rfl
      | some p => rw [hq] at c5; exact absurd (show ((26 : Int) ≠ 0) by decide) c5
    have h5 := lkA_none _ _ hn9
    have hok : NdsOk (ndsL (vfP l)) := by
      have ht9 := tree_ok hx h0
      unfold trL at ht9
      rw [if_neg hn] at ht9
      exact (chk_ok (F := F) (L := ndsL (vfP l)) (by rw [ht9])).1
    have hln : (ndsL (vfP l)).length = (vfP l).length := by unfold ndsL; rw [List.length_map]
    have hPl : (vfP l).length = (bsG l (l.length / 4) 0 []).1.length := by rw [hP, List.length_map]
    obtain ⟨V, v1, -, v3⟩ := ms_val F (vfP l).length (vfP l) 0 (List.replicate (vfP l).length (0, 0)) 0 (by simp) (fun k b hb e he q => by
      have hd : (ndsL (vfP l))[k]? = some ⟨b.t, runsV b.m b.es⟩ := by unfold ndsL; rw [List.getElem?_map, hb]; rfl
      have hkd := (hok.2 k _ hd).kid
      have hes := (o2 b (List.mem_of_getElem? hb)).1
      have hmem : e.2 ∈ kidL (runsV b.m b.es) := by
        rw [kid_runs _ _ hes]
        unfold jmpL
        exact List.mem_map.mpr ⟨e, List.mem_filter.mpr ⟨he, q⟩, rfl⟩
      obtain ⟨r, hr1, hr2, hr3⟩ := mem_kidL hmem
      have := hkd r hr1 hr2
      rw [hr3, hln] at this
      rw [Nat.zero_add]
      exact this) h
    have hv3 : ∀ (i : Nat) (b : PB), ((bsG l (l.length / 4) 0 []).1.map (lkB ((bsG l (l.length / 4) 0 []).1.map PB.a)))[i]? = some b → (V i).2 + b.t ≤ F ∧ (V i).1 + 1 ≤ (msR F (vfP l)).1 ∧ ∀ e ∈ b.es, e.1 = true → (V i).1 + 1 ≤ (V e.2.toNat).1 ∧ (V i).2 + b.t ≤ (V e.2.toNat).2 := fun i b hb => by
      have := v3 i b hb
      rw [Nat.zero_add] at this
      exact this
    have hz : (V 0).1 ≥ 0 ∧ (V 0).2 ≥ 0 := by
      have := v1 0 (Nat.le_refl _)
      have e : (List.replicate (vfP l).length ((0 : Int), (0 : Int))).getD 0 (0, 0) = (0, 0) := by
        rw [List.getD_eq_getElem?_getD, List.getElem?_replicate]
        split <;> rfl
      rw [e] at this
      exact this
    have hb0 : (bsG l (l.length / 4) 0 []).1[0]? = some (blkD l 0).pb := by rw [ht]; rfl
    obtain ⟨c, m', m1, m2, m3, m4, m5, m6, m7, m8, m9⟩ := run_from (F := F) (x := x) hx h1.s h6 h3 h5 (fun b hb => ⟨(h7 b hb).1, (h1.b b hb).2.2.2.2.1, (h1.b b hb).2.2.2.2.2, by have := (h1.b b hb).2.2.1; omega⟩) V _ hv3 (bsG l (l.length / 4) 0 []).1.length 0 (mc0 0) (blkD l 0).pb hb0 (by omega) rfl rfl (Int.le_refl _) hz.2 hz.1 hz.1 (by show (0 : Int) ≤ _; omega)
    rw [hgo c m' (by omega) m2 m3]
    refine ⟨m4, by omega, m6, m7, m8, ?_⟩
    rw [m9]
    unfold trL
    rw [if_neg hn, hln, hPl]
    rfl
end Go.Proofs.Ytjgpbahglkaijaa
namespace Go.Proofs.Ytjgpbahglkaijaa
open Go.RowKit
set_option linter.unusedSimpArgs false
set_option linter.unusedVariables false

def Rd (w : World) (B : Nat) (x : BitVec 128) : Prop := w.cell? ⟨B, 0, none⟩ = some (.int .u64 (hI x)) ∧ w.cell? ⟨B, 1, none⟩ = some (.int .u64 (lI x))
theorem Rd.keep {W w' : World} {B : Nat} {x : BitVec 128} (h : Rd W B x) (hb : Below W.heap.size W w') : Rd w' B x := ⟨keepc hb h.1, keepc hb h.2⟩
theorem Rd.alloc {W : World} {B : Nat} {x : BitVec 128} (h : Rd W B x) (o : Obj) : Rd (W.alloc o) B x := h.keep (bl1 W o)
theorem Rd.new (W : World) (x : BitVec 128) (t : TypeId) : Rd (W.alloc (.cells #[.int .u64 (hI x), .int .u64 (lI x)] t)) W.heap.size x := by
  constructor <;> simp [go_sem]
set_option maxHeartbeats 2000000 in
theorem common_any (x y : BitVec 128) (w : World) :
    Calls Try.prog 66 #[.agg #[.int .u64 (hI x), .int .u64 (lI x)], .agg #[.int .u64 (hI y), .int .u64 (lI y)]] w fun e w' => e = .returned (.int .i64 ((leadN (x ^^^ y) : Nat) : Int)) ∧ Below w.heap.size w w' := by
  go_enter Try.func66, Try.ntmps66
  go_wp2
  go_loopw [5] (fun i wr => ∃ k : Nat, k ≤ 128 ∧ i = .int .i64 k ∧ Hid ((x ^^^ y).toNat < 2 ^ (128 - k)) ∧ Rd wr w.heap.size x ∧ Rd wr (w.heap.size + 1) y ∧ Below w.heap.size w wr)
    (fun i _ => 128 - (intOf i).toNat)
  case atStart =>
    refine ⟨0, by omega, rfl, (x ^^^ y).isLt, ?_, ?_, bl2 _ _ _⟩
    · exact (Rd.new w x _).alloc _
    · have := Rd.new (w.alloc (.cells #[.int .u64 (hI x), .int .u64 (lI x)] 47)) y 47
      simpa using this
  case round =>
    obtain ⟨k, hk, rfl, hz, X, Y, hB⟩ := hrel
    have hbl := hB.drew
    by_cases hlt : (k : Int) < 128
    · have hst := bit_step (x ^^^ y) k (by omega) hz.out
      have hbe := bitZ_eq x y k (by omega)
      by_cases c : bitZ x (k : Int) = bitZ y (k : Int)
      · have hz' : Hid ((x ^^^ y).toNat < 2 ^ (128 - (k + 1))) := hst.1 (hbe.mp c)
        have hc : (bitZ x (k : Int) == bitZ y (k : Int)) = true := by simpa using c
        clear hst hbe hz c
        go_wp2
        go_region_held3 (fun w' => w'.cell? ⟨w.heap.size, 0, none⟩ = some (.int .u64 (hI x)) ∧ w'.cell? ⟨w.heap.size, 1, none⟩ = some (.int .u64 (lI x)) ∧ w'.cell? ⟨w.heap.size + 1, 0, none⟩ = some (.int .u64 (hI y)) ∧ w'.cell? ⟨w.heap.size + 1, 1, none⟩ = some (.int .u64 (lI y)) ∧ Below w.heap.size w w')
          (first
            | (obtain ⟨k1, k2, k3, k4, k9⟩ := ‹_ ∧ _›; exact ⟨keepc hb1 k1, keepc hb1 k2, keepc hb1 k3, keepc hb1 k4, keepb hb1 k9⟩)
            | exact ⟨X.1, X.2, Y.1, Y.2, hbl⟩)
          (first | (go_at_call 81; refine (rbit_any _ _ _).mono ?_; rintro e w1 ⟨rfl, hb1⟩))
        obtain ⟨k1, k2, k3, k4, kB⟩ := ‹_ ∧ _›
        go_wp2
        go_roundw
        case rel => exact ⟨k + 1, by omega, by go_num, hz', ⟨k1, k2⟩, ⟨k3, k4⟩, kB⟩
        case measure => simp [intOf]; omega
      · have hz' : Hid (2 ^ (127 - k) ≤ (x ^^^ y).toNat) := by
          apply hst.2
          cases hh : (x ^^^ y).getLsbD (127 - k)
          · exact absurd (hbe.mpr hh) c
          · rfl
        have hc : (bitZ x (k : Int) == bitZ y (k : Int)) = false := by simpa using c
        have HL : Hid (leadN (x ^^^ y) = k) := lead_char _ _ hk hz.out (Or.inr hz'.out)
        clear hst hbe hz hz' c
        go_wp2
        go_region_held3 (fun w' => w'.cell? ⟨w.heap.size, 0, none⟩ = some (.int .u64 (hI x)) ∧ w'.cell? ⟨w.heap.size, 1, none⟩ = some (.int .u64 (lI x)) ∧ w'.cell? ⟨w.heap.size + 1, 0, none⟩ = some (.int .u64 (hI y)) ∧ w'.cell? ⟨w.heap.size + 1, 1, none⟩ = some (.int .u64 (lI y)) ∧ Below w.heap.size w w')
          (first
            | (obtain ⟨k1, k2, k3, k4, k9⟩ := ‹_ ∧ _›; exact ⟨keepc hb1 k1, keepc hb1 k2, keepc hb1 k3, keepc hb1 k4, keepb hb1 k9⟩)
            | exact ⟨X.1, X.2, Y.1, Y.2, hbl⟩)
          (first | (go_at_call 81; refine (rbit_any _ _ _).mono ?_; rintro e w1 ⟨rfl, hb1⟩))
        obtain ⟨k1, k2, k3, k4, kB⟩ := ‹_ ∧ _›
        go_wp2
        go_ret
        exact ⟨by rw [HL.out]; rfl, kB⟩
    · have hk8 : k = 128 := by omega
      have HL : Hid (leadN (x ^^^ y) = k) := lead_char _ _ hk hz.out (Or.inl hk8)
      have hd : decide ((k : Int) < 128) = false := by simpa using hlt
      clear hlt hz hk8
      go_wp2
      go_quiet (fail)
      go_wp2
      go_ret
      exact ⟨by rw [HL.out]; rfl, below_drewN hB _⟩

set_option maxHeartbeats 1000000 in
theorem rlead_any (x : BitVec 128) (w : World) :
    Calls Try.prog 42 #[.agg #[.int .u64 (hI x), .int .u64 (lI x)]] w fun e w' => e = .returned (.int .i64 ((leadN x : Nat) : Int)) ∧ Below w.heap.size w w' := by
  have hc := fun w => common_any x 0#128 w
  rw [hI_zero, lI_zero, BitVec.xor_zero] at hc
  go_enter Try.func42, Try.ntmps42
  go_wp2_with fail
  refine (hc _).mono ?_
  rintro e w1 ⟨rfl, hb1⟩
  clear hc
  go_wp2
  go_ret
  exact ⟨rfl, keepb hb1 (bl1 _ _)⟩

set_option maxHeartbeats 1000000 in
theorem fits_any (f n : Int) (w : World) (hf : -9223372036854775808 ≤ f) (hf' : f ≤ 9223372036854775807) :
    Calls Try.prog 63 #[.int .i64 f, .int .i64 n] w fun e w' => e = .returned (.bool (fitB f n)) ∧ w' = w := by
  unfold fitB
  by_cases h0 : 0 ≤ f
  · by_cases h1 : f ≤ 128
    · by_cases h2 : 0 ≤ n
      · by_cases h3 : n ≤ 128 - f
        · go_enter Try.func63, Try.ntmps63
          go_wp2
          go_ret
          exact ⟨by simp [h0, h1, h2, h3] <;> omega, rfl⟩
        · go_enter Try.func63, Try.ntmps63
          go_wp2
          go_ret
          exact ⟨by simp [h0, h1, h2, h3] <;> omega, rfl⟩
      · go_enter Try.func63, Try.ntmps63
        go_wp2
        go_ret
        exact ⟨by simp [h0, h1, h2] <;> omega, rfl⟩
    · go_enter Try.func63, Try.ntmps63
      go_wp2
      go_ret
      exact ⟨by simp [h0, h1] <;> omega, rfl⟩
  · go_enter Try.func63, Try.ntmps63
    go_wp2
    go_ret
    exact ⟨by simp [h0] <;> omega, rfl⟩

set_option maxHeartbeats 1000000 in
theorem rfield_in (x : BitVec 128) (f n : Int) (w : World) (h : fitB f n = true) :
    Calls Try.prog 40 #[.agg #[.int .u64 (hI x), .int .u64 (lI x)], .int .i64 f, .int .i64 n] w fun e w' => e = .returned (.tuple #[.agg #[.int .u64 (hI (readW x f n)), .int .u64 (lI (readW x f n))], .int .i64 0]) ∧ Below w.heap.size w w' := by
  unfold readW
  obtain ⟨h0, h1, h2, h3⟩ := fitB_t h
  have hf := fun w => fits_any f n w (by omega) (by omega)
  rw [h] at hf
  clear h
  go_enter Try.func40, Try.ntmps40
  go_wp2_with fail
  refine (hf _).mono ?_
  rintro e w1 ⟨rfl, rfl⟩
  clear hf
  go_wp2_with fail
  refine (rshl_any _ _ _).mono ?_
  rintro e w2 ⟨rfl, hb2⟩
  go_wp2_with fail
  refine (rshr_any _ _ _).mono ?_
  rintro e w3 ⟨rfl, hb3⟩
  have hb := keepb hb3 hb2
  have e0 : w3.cell? ⟨w.heap.size + 1, 0, none⟩ = some (.int .u64 0) := keepc hb (by simp [go_sem])
  have e1 : w3.cell? ⟨w.heap.size + 1, 1, none⟩ = some (.int .u64 0) := keepc hb (by simp [go_sem])
  have e2 : w3.frozen? ⟨w.heap.size + 1, 0, none⟩ = false := keepf hb (v := .int .u64 0) (by simp [go_sem]) (by simp [go_sem])
  have e3 : w3.frozen? ⟨w.heap.size + 1, 1, none⟩ = false := keepf hb (v := .int .u64 0) (by simp [go_sem]) (by simp [go_sem])
  have kB : Below w.heap.size w w3 := keepb hb (bl2 _ _ _)
  clear hb hb2 hb3
  go_wp2
  exact bodyPost_ret (v := .tuple #[.agg #[.int .u64 (hI ((x <<< f.toNat) >>> (128 - n).toNat)), .int .u64 (lI ((x <<< f.toNat) >>> (128 - n).toNat))], .int .i64 0]) (by simp [results, Try.results40, go_sem, e0, e1]) rfl ⟨rfl, (kB.setCell (by simp) _).setCell (by simp) _⟩

end Go.Proofs.Ytjgpbahglkaijaa
