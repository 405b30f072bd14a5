/-
  Part 4 of the proof: 8 texts, one behind the other.
-/
import Derived.Test.YtiachojhnbicaabPart3
import Derived.Deep.RegionHeld3
import Derived.Deep.AppendLies
import Derived.Laws.AppendOwnNone
import Derived.Test.YtiachojhnbicaabPart1
import Derived.Test.YtiachojhnbicaabPart2
import Derived.Lib.BitFns
namespace Go.Proofs.Ytiachojhnbicaab
open Go.RowKit
set_option linter.unusedSimpArgs false
set_option linter.unusedVariables false
attribute [local go_sem] Oper.semAt_some

theorem step_append_rowA21 {P : Program} {w : World} {ops : Array Oper} {o : Oper} {a : Act} {K : Act → World → Prop} {Q : Exit → Act → World → Prop} {E : Prop} (hgd : o.guard = none) (s x : Operand) (t : TypeId)
    (ho : o.op = .call { callee := .builtin .append, args := #[s, x], argTypes := #[t, t] })
    (base : Nat) (e : TypeId) (i : TypeInfo) (z : Value) (size bytes : Nat) (ht : P.underlying t = some (.slice e)) (hi : P.info? e = some i) (hz : i.zero = some z)
    (hsize : i.size = size) (hby : i.bytes = bytes) (hzs : z.cells.size = size) (hsz : 0 < size)
    (v : Value) (n : Nat) (xs : List Value) (hs : a.eval s = v) (hown : w.ownsRow base e size v n xs)
    (vx : Value) (m : Nat) (news : List Value) (hx : a.eval x = vx) (hsrc : RowA w size vx m news) (h1 : ∀ y ∈ news, y.oneCell' = true)
    (h63 : n + m ≤ maxLen) (hbytes : (n + m) * bytes ≤ 140737488355328) (hbase : base ≤ w.heap.size)
    (h : ∀ ao cap w', w'.ownsRow base e size (.slice ao (n + m) cap) (n + m) (xs ++ news) → w.grownBy w' v.ownBlock → K (a.put o.dst (.slice ao (n + m) cap)) w') :
    if Region.wanted o (yielded ops a.tmps) = true then Oper.wp P o a w K Q else E := by
  have hw : Region.wanted o (yielded ops a.tmps) = true := by simp [Region.wanted, hgd]
  rw [if_pos hw]
  obtain ⟨hl, xo, c, rfl, hcc, hsrc⟩ := hsrc
  rcases hsrc with ⟨rfl, rfl, rfl⟩ | ⟨ad, rfl, hc⟩
  · have : news = [] := List.eq_nil_of_length_eq_zero (by omega)
    subst this
    obtain ⟨ao, cp, hv⟩ := own_form hown
    have hK := h ao cp w (by rw [List.append_nil, Nat.add_zero, ← hv]; exact hown) ⟨rfl, rfl, rfl, Nat.le_refl _, fun _ _ _ => rfl⟩
    rw [Nat.add_zero, ← hv] at hK
    have hrun := run_append_owned_none (P := P) (w := w) base t o.type e i size ht hi v n xs hown
    unfold Oper.wp
    simp [execOp, ho, resolve, invoke, builtin, hs, hx, hrun, Result.andThen]
    exact hK
  · refine wp_append_own w s x t ho base e i z size bytes ht hi hz hsize hby hzs hsz v n xs hs hown ad m c news hx hl hc h1 h63 hbytes hbase ?_
    intro v' w' h2 h3 _
    obtain ⟨ao, cp, hv⟩ := own_form h2
    rw [hv]
    rw [hv] at h2
    exact h ao cp w' h2 h3
def Dt21 (W : World) (v : Value) (l : List Nat) : Prop := RwX cB W v l ∧ RowA W 1 v l.length (l.map cB)
theorem Dt21.below {w w' : World} {v : Value} {l : List Nat} (h : Dt21 w v l) (hb : Below w.heap.size w w') : Dt21 w' v l := ⟨h.1.below hb, h.2.below hb⟩
theorem own_dt21 {W : World} {base : Nat} {v : Value} {l : List Nat} (h : W.ownsRow base 5 1 v l.length (l.map cB)) : Dt21 W v l := ⟨own_rwx h, own_rowA h⟩
theorem dt_blk21 {w W : World} {v : Value} {l : List Nat} (h : Dt21 w v l) (hk : ∀ z, v.ownBlock = some z → z < w.heap.size → W.heap[z]? = w.heap[z]?) : Dt21 W v l := by
  obtain ⟨⟨ao, c, e, hc, h⟩, ⟨hl, ao', c', e', hc', h'⟩⟩ := h
  refine ⟨⟨ao, c, e, hc, h.imp id ?_⟩, ⟨hl, ao', c', e', hc', h'.imp id ?_⟩⟩
  · rintro ⟨b, off, e2, h⟩
    refine ⟨b, off, e2, fun j r hj => ?_⟩
    have c0 := h j r hj
    exact (World.cell?_of_block (a := ⟨b, off + j, none⟩) (hk b (by rw [e, e2]; rfl) (cell_in c0))).trans c0
  · rintro ⟨⟨ab, af, asb⟩, e2, h⟩
    refine ⟨⟨ab, af, asb⟩, e2, fun j u hj => ?_⟩
    obtain ⟨a, ha⟩ : ∃ a : Addr, a = ⟨ab, af, asb⟩ := ⟨_, rfl⟩
    have hbk : (Value.slice (some a) l.length c').ownBlock = some a.block := by rw [ha]; rfl
    rw [← ha] at e2 h ⊢
    clear ha
    have c0 := h j u hj
    have sp := spot9 c0
    have hb : W.heap[(a.add j).block]? = w.heap[(a.add j).block]? := by
      refine hk (a.add j).block (by rw [e', e2, hbk]; congr 1; unfold Addr.add; split <;> rfl) ?_
      rw [sp] at c0
      exact cell_in c0
    exact (World.cell?_of_block (a := a.add j) hb).trans c0
def rowP21 : List Pt → List Value → List Value
  | d :: L, v :: V => .int .i64 d.k :: .int .i64 d.d :: v :: rowP21 L V
  | _, _ => []
theorem rowP21_app : ∀ (L : List Pt) (V : List Value) (d : Pt) (v : Value), L.length = V.length → rowP21 (L ++ [d]) (V ++ [v]) = rowP21 L V ++ [.int .i64 d.k, .int .i64 d.d, v]
  | [], [], d, v, _ => rfl
  | x :: L, y :: V, d, v, h => by
    show _ :: _ :: _ :: rowP21 (L ++ [d]) (V ++ [v]) = _
    rw [rowP21_app L V d v (by simpa using h)]; rfl
  | [], y :: V, d, v, h => by simp at h
  | x :: L, [], d, v, h => by simp at h
theorem rowP21_get : ∀ (L : List Pt) (V : List Value) (j : Nat) (d : Pt) (v : Value), L[j]? = some d → V[j]? = some v → (rowP21 L V)[j * 3]? = some (.int .i64 d.k) ∧ (rowP21 L V)[j * 3 + 1]? = some (.int .i64 d.d) ∧ (rowP21 L V)[j * 3 + 2]? = some v
  | [], V, j, d, v, h, _ => by simp at h
  | x :: L, [], j, d, v, _, h => by simp at h
  | x :: L, y :: V, 0, d, v, h1, h2 => by
    simp at h1 h2
    subst h1 h2
    exact ⟨rfl, rfl, rfl⟩
  | x :: L, y :: V, j + 1, d, v, h1, h2 => by
    have ih := rowP21_get L V j d v (by simpa using h1) (by simpa using h2)
    have e0 : (j + 1) * 3 = j * 3 + 3 := by omega
    rw [e0]
    exact ih
theorem ptr_of21 {W : World} {base : Nat} {v : Value} {L : List Pt} {V : List Value} (h : W.ownsRow base 28 3 v L.length (rowP21 L V)) (hl : V.length = L.length) (hr : ∀ (j : Nat) (d : Pt) (vr : Value), L[j]? = some d → V[j]? = some vr → Dt21 W vr d.x) : PtR21 W v L := by
  by_cases hL : L = []
  · subst hL
    obtain ⟨ao, c, hv⟩ := own_form h
    exact ⟨ao, c, hv, Nat.zero_le _, .inl rfl⟩
  · have hp := List.length_pos_iff.mpr hL
    obtain ⟨g, c, hv, hc⟩ : ∃ g c, v = .slice (some ⟨g, 0, none⟩) L.length c ∧ L.length ≤ c := by
      rcases h.2 with ⟨-, h0⟩ | ⟨g, c, cur, e, -, -, h3, -⟩
      · omega
      · exact ⟨g, c, e, h3⟩
    subst hv
    refine ⟨_, c, rfl, hc, .inr ⟨g, 0, rfl, fun j d hj => ?_⟩⟩
    have hjl := (List.getElem?_eq_some_iff.mp hj).1
    have hvj : V[j]? = some V[j] := List.getElem?_eq_getElem (by omega)
    obtain ⟨c0, c1, c2⟩ := rowP21_get L V j d _ hj hvj
    rw [Nat.zero_add]
    have hq := hr j d _ hj hvj
    exact ⟨V[j], (h.cellAt _ (by omega)).trans c0, (h.cellAt _ (by omega)).trans c1, (h.cellAt _ (by omega)).trans c2, hq.1, hq.2⟩
theorem Try.infoP21 : (Try.prog.info? 28).map (fun i => (i.zero, i.size, i.bytes)) = some (some (.agg #[.int .i64 0, .int .i64 0, .slice none 0 0]), 3, 40) := by kernel_rfl
theorem news_three21 (w : World) (x y z : Value) (T : TypeId) : ∀ j u, [x, y, z][j]? = some u → (w.alloc (.cells #[x, y, z] T)).cell? ((⟨w.heap.size, 0, none⟩ : Addr).add j) = some u := by
  intro j u h
  match j, h with
  | 0, h => simp at h; subst h; simp [go_sem, Addr.add]
  | 1, h => simp at h; subst h; simp [go_sem, Addr.add]
  | 2, h => simp at h; subst h; simp [go_sem, Addr.add]
  | j + 3, h => simp at h
theorem three_one21 (a b : Int) (ao : Option Addr) (n c : Nat) : ∀ u ∈ [Value.int .i64 a, .int .i64 b, .slice ao n c], u.oneCell' = true := by
  intro u hu
  simp at hu
  rcases hu with h | h | h <;> subst h <;> rfl
end Go.Proofs.Ytiachojhnbicaab
namespace Go.Proofs.Ytiachojhnbicaab
set_option linter.unusedSimpArgs false
set_option linter.unusedVariables false

abbrev okP (m : Int) (p : Pt) : Prop := 0 ≤ p.k ∧ p.k ≤ m ∧ 0 ≤ p.d ∧ p.d ≤ m - p.k
def ftF (s : Option Int) (p : Pt) : Option Int := match s with
  | none => none
  | some m => if okP m p then some (m - p.k - p.d) else none
def ftS (n : Int) (L : List Pt) : Option Int := L.foldl ftF (some n)
def fitB (n : Int) (L : List Pt) : Bool := (ftS n L).isSome
theorem ftF_none : ∀ L : List Pt, L.foldl ftF none = none
  | [] => rfl
  | p :: L => by rw [List.foldl_cons]; exact ftF_none L
theorem ftS_take {n : Int} {L : List Pt} {j : Nat} {p : Pt} (h : L[j]? = some p) : ftS n (L.take (j + 1)) = ftF (ftS n (L.take j)) p := by
  unfold ftS
  rw [List.take_add_one, h, List.foldl_append]
  rfl
theorem ftS_none {n : Int} {L : List Pt} (j : Nat) (h : ftS n (L.take j) = none) : ftS n L = none := by
  unfold ftS at h ⊢
  rw [← List.take_append_drop j L, List.foldl_append, h]
  exact ftF_none _
theorem ftS_some {n : Int} {L : List Pt} (j : Nat) (h : fitB n L = true) : ∃ m, ftS n (L.take j) = some m := by
  cases e : ftS n (L.take j) with
  | some m => exact ⟨m, rfl⟩
  | none =>
    unfold fitB at h
    rw [ftS_none j e] at h
    cases h
theorem ftS_ok {n m : Int} {L : List Pt} {j : Nat} {p : Pt} (hb : fitB n L = true) (h : L[j]? = some p) (hm : ftS n (L.take j) = some m) : okP m p ∧ ftS n (L.take (j + 1)) = some (m - p.k - p.d) := by
  obtain ⟨m', hm'⟩ := ftS_some (j + 1) hb
  have := ftS_take (n := n) h
  rw [hm] at this
  by_cases ho : okP m p
  · refine ⟨ho, ?_⟩
    rw [this]
    unfold ftF
    dsimp only
    rw [if_pos ho]
  · rw [hm'] at this
    unfold ftF at this
    dsimp only at this
    rw [if_neg ho] at this
    cases this
theorem ftS_bad {n m : Int} {L : List Pt} {j : Nat} {p : Pt} (h : L[j]? = some p) (hm : ftS n (L.take j) = some m) (ho : ¬ okP m p) : fitB n L = false := by
  unfold fitB
  rw [ftS_none (j + 1) (by rw [ftS_take h, hm]; unfold ftF; dsimp only; rw [if_neg ho])]
  rfl
theorem ftS_go {n m : Int} {L : List Pt} {j : Nat} {p : Pt} (h : L[j]? = some p) (hm : ftS n (L.take j) = some m) (ho : okP m p) : ftS n (L.take (j + 1)) = some (m - p.k - p.d) := by
  rw [ftS_take h, hm]
  unfold ftF
  dsimp only
  rw [if_pos ho]
theorem ftS_all {n m : Int} {L : List Pt} {j : Nat} (hj : L.length ≤ j) (hm : ftS n (L.take j) = some m) : fitB n L = true := by
  unfold fitB
  rw [List.take_of_length_le hj] at hm
  rw [hm]
  rfl
theorem ftS_bd {n : Int} (hn : 0 ≤ n) : ∀ (L : List Pt) (m : Int), ftS n L = some m → 0 ≤ m ∧ m ≤ n := by
  intro L
  suffices h : ∀ (L : List Pt) (k m : Int), 0 ≤ k → L.foldl ftF (some k) = some m → 0 ≤ m ∧ m ≤ k by
    exact fun m hm => h L n m hn hm
  intro L
  induction L with
  | nil =>
    intro k m hk h
    simp only [List.foldl_nil, Option.some.injEq] at h
    omega
  | cons p L ih =>
    intro k m hk h
    rw [List.foldl_cons] at h
    by_cases ho : okP k p
    · have e : ftF (some k) p = some (k - p.k - p.d) := by unfold ftF; dsimp only; rw [if_pos ho]
      rw [e] at h
      obtain ⟨h1, h2, h3, h4⟩ := ho
      have := ih _ m (by omega) h
      omega
    · have e : ftF (some k) p = none := by unfold ftF; dsimp only; rw [if_neg ho]
      rw [e, ftF_none] at h
      cases h
def apF (s : List Nat × List Nat) (p : Pt) : List Nat × List Nat := (s.1 ++ s.2.take p.k.toNat ++ p.x, s.2.drop (p.k + p.d).toNat)
def apS (a : List Nat) (L : List Pt) : List Nat × List Nat := L.foldl apF ([], a)
def apL (a : List Nat) (L : List Pt) : List Nat := if fitB a.length L then (apS a L).1 ++ (apS a L).2 else []
def apE (a : List Nat) (L : List Pt) : Int := if fitB a.length L then 0 else 33
theorem apS_take {a : List Nat} {L : List Pt} {j : Nat} {p : Pt} (h : L[j]? = some p) : apS a (L.take (j + 1)) = apF (apS a (L.take j)) p := by
  unfold apS
  rw [List.take_add_one, h, List.foldl_append]
  rfl
theorem apS_len (a : List Nat) : ∀ (j : Nat) (L : List Pt) (m : Int), ftS a.length (L.take j) = some m → ((apS a (L.take j)).2.length : Int) = m := by
  intro j L
  induction j with
  | zero =>
    intro m h
    rw [List.take_zero] at h ⊢
    simp only [ftS, List.foldl_nil, Option.some.injEq] at h
    rw [← h]
    rfl
  | succ j ih =>
    intro m h
    cases hp : L[j]? with
    | none =>
      have hl : L.length ≤ j := by simpa using hp
      rw [List.take_of_length_le (by omega)] at h ⊢
      have := ih m (by rw [List.take_of_length_le hl]; exact h)
      rw [List.take_of_length_le hl] at this
      exact this
    | some p =>
      cases hm : ftS a.length (L.take j) with
      | none => rw [ftS_take hp, hm] at h; cases h
      | some m' =>
        have h1 := ih m' hm
        rw [ftS_take hp, hm] at h
        unfold ftF at h
        dsimp only at h
        split at h
        · rename_i ho
          obtain ⟨o1, o2, o3, o4⟩ := ho
          injection h with h
          rw [apS_take hp]
          unfold apF
          dsimp only
          rw [List.length_drop]
          omega
        · cases h
theorem sum_app21 (l : List Nat) (n : Nat) : (l ++ [n]).sum = l.sum + n := by rw [List.sum_append]; simp
theorem apS_out (a : List Nat) : ∀ (j : Nat) (L : List Pt) (m : Int), ftS a.length (L.take j) = some m → (((apS a (L.take j)).1.length : Nat) : Int) + m ≤ (a.length : Int) + (((L.take j).map fun p => p.x.length).sum : Nat) := by
  intro j L
  induction j with
  | zero =>
    intro m h
    rw [List.take_zero] at h ⊢
    simp only [ftS, List.foldl_nil, Option.some.injEq] at h
    simp [apS]
    omega
  | succ j ih =>
    intro m h
    cases hp : L[j]? with
    | none =>
      have hl : L.length ≤ j := by simpa using hp
      rw [List.take_of_length_le (by omega)] at h ⊢
      have := ih m (by rw [List.take_of_length_le hl]; exact h)
      rw [List.take_of_length_le hl] at this
      exact this
    | some p =>
      cases hm : ftS a.length (L.take j) with
      | none => rw [ftS_take hp, hm] at h; cases h
      | some m' =>
        have h1 := ih m' hm
        have h2 := apS_len a j L m' hm
        rw [ftS_take hp, hm] at h
        unfold ftF at h
        dsimp only at h
        split at h
        · rename_i ho
          obtain ⟨o1, o2, o3, o4⟩ := ho
          injection h with h
          rw [apS_take hp, List.take_add_one, hp, List.map_append]
          show (((apF (apS a (L.take j)) p).1.length : Nat) : Int) + m ≤ (a.length : Int) + ((((L.take j).map fun p => p.x.length) ++ [p.x.length]).sum : Nat)
          rw [sum_app21]
          unfold apF
          dsimp only
          rw [List.length_append, List.length_append, List.length_take]
          generalize ((L.take j).map fun p => p.x.length).sum = S at *
          omega
        · cases h
end Go.Proofs.Ytiachojhnbicaab
namespace Go.Proofs.Ytiachojhnbicaab
open Go.RowKit Go.Shelf
set_option linter.unusedSimpArgs false
set_option linter.unusedVariables false

theorem pair0_21 (a b : Int) (X : World) : (Instr.index 37 (.agg #[.int .i64 a, .int .i64 b]) (.int .i64 0)).run Try.prog X = .ok (.int .i64 a) X := by
  simp [Instr.index, run_underlying Try.underlying37, go_sem]
theorem pair1_21 (a b : Int) (X : World) : (Instr.index 37 (.agg #[.int .i64 a, .int .i64 b]) (.int .i64 1)).run Try.prog X = .ok (.int .i64 b) X := by
  simp [Instr.index, run_underlying Try.underlying37, go_sem]
set_option maxRecDepth 100000 in
set_option maxHeartbeats 8000000 in
theorem fit21 (n : Int) (v : Value) (L : List Pt) (w : World) (hn : 0 ≤ n) (hn2 : n ≤ 9223372036854775807) (hv : PtR21 w v L) (hl : L.length ≤ 140737488355328) :
    Calls Try.prog 13 #[.int .i64 n, v] w fun e w' => e = .returned (.bool (fitB n L)) ∧ Below w.heap.size w w' := by
  obtain ⟨ao, c, hvf, -⟩ := id hv
  subst hvf
  have HT := hid13 hv
  have HB : Hid (Below w.heap.size w w) := Below.refl _ _
  have HL : Hid (L.length ≤ 140737488355328 ∧ 0 ≤ n ∧ n ≤ 9223372036854775807) := ⟨hl, hn, hn2⟩
  clear hv hl hn hn2
  go_enter Try.func13, Try.ntmps13
  go_wp2
  go_loopg [0, 11] L.length (fun g s x wr => ∃ (k : Nat) (m : Int), k + g = L.length ∧ s = .int .i64 m ∧ x = .int .i64 (k : Int) ∧ Hid (ftS n (L.take k) = some m) ∧ Hid (PtR21 wr (.slice ao L.length c) L ∧ Below w.heap.size w wr))
  case atStart => exact ⟨0, n, by omega, rfl, rfl, rfl, ⟨HT.out, HB.out⟩⟩
  case round =>
    clear HT HB
    obtain ⟨k, m, hk, rfl, rfl, HM, HW⟩ := hrel
    by_cases hlt : k < L.length
    rotate_left 1
    · have l1 : ¬ (k : Int) < (L.length : Int) := by omega
      have HE : Hid (fitB n L = true) := ftS_all (by omega) HM.out
      clear hlt hk
      go_wp2
      go_ret
      exact ⟨by rw [HE.out]; rfl, HW.out.2⟩
    have l1 : (k : Int) < (L.length : Int) := by omega
    obtain ⟨p, hp⟩ : ∃ p, L[k]? = some p := ⟨L[k], by simp [hlt]⟩
    obtain ⟨b1, f1, xo, xc, hao, r0, r1, r2, -, -⟩ := ptr_at HW.out.1 hp
    subst hao
    have wk : IntKind.i64.wrap ((k : Int) + 1) = (k : Int) + 1 := by rw [IntKind.wrap_i64]; have := HL.out; omega
    have hm := ftS_bd HL.out.2.1 _ _ HM.out
    have HX : Hid (k < L.length ∧ k + gk = L.length ∧ 0 ≤ m ∧ m ≤ n) := ⟨hlt, hk, hm.1, hm.2⟩
    have HBad : Hid (¬ okP m p → fitB n L = false) := hid13 (ftS_bad hp HM.out)
    have HGo : Hid (okP m p → ftS n (L.take (k + 1)) = some (m - p.k - p.d)) := hid13 (ftS_go hp HM.out)
    have q1 := bl1 wr (.cells #[.int .i64 p.k, .int .i64 p.d, .slice xo p.x.length xc] 28)
    have HW2 : Hid (PtR21 _ (.slice (some ⟨b1, f1, none⟩) L.length c) L ∧ Below w.heap.size w _) := ⟨HW.out.1.below q1, keepb q1 HW.out.2⟩
    clear hp hlt hk HW q1 hm HM
    go_wp2
    obtain ⟨mk, hmk⟩ : ∃ mk, mk = gk := ⟨_, rfl⟩
    have HMK : Hid (mk = gk) := hmk
    have x0 := pair0_21 p.k p.d
    have x1 := pair1_21 p.k p.d
    have HX2 : Hid (k < L.length ∧ k + mk = L.length ∧ 0 ≤ m ∧ m ≤ n) := by rw [hmk]; exact HX.out
    clear HX hmk
    go_loopg [0, 20] 2 (fun g s x wr => Hid (PtR21 wr (.slice (some ⟨b1, f1, none⟩) L.length c) L ∧ Below w.heap.size w wr) ∧ ((g = 2 ∧ x = .int .i64 0 ∧ s = .int .i64 m) ∨ (g = 1 ∧ x = .int .i64 1 ∧ s = .int .i64 (m - p.k) ∧ Hid (0 ≤ p.k ∧ p.k ≤ m)) ∨ (g = 0 ∧ x = .int .i64 2 ∧ s = .int .i64 (m - p.k - p.d) ∧ Hid (okP m p))))
    case atStart => exact ⟨HW2, .inl ⟨rfl, rfl, rfl⟩⟩
    case round =>
      clear HW2 r0 r1 r2
      obtain ⟨HW, hcs⟩ := hrel
      rcases hcs with ⟨hg, rfl, rfl⟩ | ⟨hg, rfl, rfl, HO⟩ | ⟨hg, rfl, rfl, HO⟩
      · by_cases k0 : p.k < 0
        · have d0 : decide (p.k < 0) = true := decide_eq_true k0
          have HF := hid13 (HBad.out (fun h => by have := h.1; omega))
          clear k0 hg
          go_wp2
          go_ret
          exact ⟨by rw [HF.out]; rfl, HW.out.2⟩
        have d0 : decide (p.k < 0) = false := decide_eq_false k0
        by_cases k1 : m < p.k
        · have d1 : decide (m < p.k) = true := decide_eq_true k1
          have HF := hid13 (HBad.out (fun h => by have := h.2.1; omega))
          clear k0 k1 hg
          go_wp2
          go_ret
          exact ⟨by rw [HF.out]; rfl, HW.out.2⟩
        have d1 : decide (m < p.k) = false := decide_eq_false k1
        have w1 : IntKind.i64.wrap (m - p.k) = m - p.k := by rw [IntKind.wrap_i64]; have := HX2.out; have := HL.out; omega
        have HO : Hid (0 ≤ p.k ∧ p.k ≤ m) := ⟨by omega, by omega⟩
        clear k0 k1
        go_wp2
        go_roundg 1
        case measure => omega
        case rel => exact ⟨HW, .inr (.inl ⟨rfl, rfl, rfl, HO⟩)⟩
      · by_cases k2 : p.d < 0
        · have d2 : decide (p.d < 0) = true := decide_eq_true k2
          have HF := hid13 (HBad.out (fun h => by have := h.2.2.1; omega))
          clear k2 hg
          go_wp2
          go_ret
          exact ⟨by rw [HF.out]; rfl, HW.out.2⟩
        have d2 : decide (p.d < 0) = false := decide_eq_false k2
        by_cases k3 : m - p.k < p.d
        · have d3 : decide (m - p.k < p.d) = true := decide_eq_true k3
          have HF := hid13 (HBad.out (fun h => by have := h.2.2.2; omega))
          clear k2 k3 hg
          go_wp2
          go_ret
          exact ⟨by rw [HF.out]; rfl, HW.out.2⟩
        have d3 : decide (m - p.k < p.d) = false := decide_eq_false k3
        have w2 : IntKind.i64.wrap (m - p.k - p.d) = m - p.k - p.d := by rw [IntKind.wrap_i64]; have := HO.out; have := HX2.out; have := HL.out; omega
        have HO2 : Hid (okP m p) := ⟨HO.out.1, HO.out.2, by omega, by omega⟩
        clear k2 k3
        go_wp2
        go_roundg 0
        case measure => omega
        case rel => exact ⟨HW, .inr (.inr ⟨rfl, rfl, rfl, HO2⟩)⟩
      · have HM2 := hid13 (HGo.out HO.out)
        clear hg
        go_wp2
        go_roundg (mk - 1)
        case measure => have := HX2.out; have := HMK.out; omega
        case rel => exact ⟨k + 1, m - p.k - p.d, by have := HX2.out; omega, rfl, rfl, HM2, HW⟩
end Go.Proofs.Ytiachojhnbicaab
namespace Go.Proofs.Ytiachojhnbicaab
open Go.RowKit
set_option linter.unusedSimpArgs false
set_option linter.unusedVariables false

theorem wp_append_rowA {P : Program} {w : World} {o : Oper} {a : Act} {K : Act → World → Prop} {Q : Exit → Act → World → Prop} (s x : Operand) (t : TypeId)
    (ho : o.op = .call { callee := .builtin .append, args := #[s, x], argTypes := #[t, t] })
    (base : Nat) (e : TypeId) (i : TypeInfo) (z : Value) (size bytes : Nat) (ht : P.underlying t = some (.slice e)) (hi : P.info? e = some i) (hz : i.zero = some z)
    (hsize : i.size = size) (hby : i.bytes = bytes) (hzs : z.cells.size = size) (hsz : 0 < size)
    (v : Value) (n : Nat) (xs : List Value) (hs : a.eval s = v) (hown : w.ownsRow base e size v n xs)
    (vx : Value) (m : Nat) (news : List Value) (hx : a.eval x = vx) (hsrc : RowA w size vx m news) (h1 : ∀ y ∈ news, y.oneCell' = true)
    (h63 : n + m ≤ maxLen) (hbytes : (n + m) * bytes ≤ 140737488355328) (hbase : base ≤ w.heap.size)
    (h : ∀ ao cap w', w'.ownsRow base e size (.slice ao (n + m) cap) (n + m) (xs ++ news) → w.grownBy w' v.ownBlock → K (a.put o.dst (.slice ao (n + m) cap)) w') : o.wp P a w K Q := by
  obtain ⟨hl, xo, c, rfl, hcc, hsrc⟩ := hsrc
  rcases hsrc with ⟨rfl, rfl, rfl⟩ | ⟨ad, rfl, hc⟩
  · have : news = [] := List.eq_nil_of_length_eq_zero (by omega)
    subst this
    have hrun := run_append_owned_none (P := P) (w := w) base t o.type e i size ht hi v n xs hown
    obtain ⟨ao, cp, hv⟩ := own_form hown
    have hh := h ao cp w (by rw [List.append_nil, Nat.add_zero, ← hv]; exact hown) ⟨rfl, rfl, rfl, Nat.le_refl _, fun _ _ _ => rfl⟩
    rw [Nat.add_zero, ← hv] at hh
    unfold Oper.wp
    simp [execOp, ho, resolve, invoke, builtin, hs, hx, hrun, Result.andThen]
    exact hh
  · refine wp_append_own w s x t ho base e i z size bytes ht hi hz hsize hby hzs hsz v n xs hs hown ad m c news hx hl hc h1 h63 hbytes hbase ?_
    intro v' w' h2 h3 _
    obtain ⟨ao, cp, hv⟩ := own_form h2
    rw [hv]
    rw [hv] at h2
    exact h ao cp w' h2 h3
end Go.Proofs.Ytiachojhnbicaab
namespace Go.Proofs.Ytiachojhnbicaab
open Go.RowKit
set_option linter.unusedSimpArgs false
set_option linter.unusedVariables false

end Go.Proofs.Ytiachojhnbicaab
namespace Go.Proofs.Ytiachojhnbicaab
open Go.RowKit
set_option linter.unusedSimpArgs false
set_option linter.unusedVariables false

structure PB where
  a : Int
  t : Int
  m : List (BitVec 32)
  es : List (Bool × Int)
end Go.Proofs.Ytiachojhnbicaab
namespace Go.Proofs.Ytiachojhnbicaab
open Go.RowKit
set_option linter.unusedSimpArgs false
set_option linter.unusedVariables false

end Go.Proofs.Ytiachojhnbicaab
namespace Go.Proofs.Ytiachojhnbicaab
open Go.RowKit
set_option linter.unusedSimpArgs false
set_option linter.unusedVariables false

theorem own_typed18 {W : World} {base e size n : Nat} {v : Value} {xs : List Value} (h : W.ownsRow base e size v n xs) (z : Nat) (hz : v.ownBlock = some z) : ∃ cs, W.heap[z]? = some (.cells cs e) := by
  rcases h.2 with ⟨e0, _⟩ | ⟨g, cap, cur, e0, hb, hg, rest⟩
  · rw [e0] at hz; cases hz
  · rw [e0] at hz
    have q : g = z := by simpa [Value.ownBlock] using hz
    subst q
    exact ⟨_, hg⟩
theorem own_not18 {W : World} {base e size n : Nat} {v : Value} {xs : List Value} (h : W.ownsRow base e size v n xs) {z : Nat} {cs : Array Value} {T : TypeId} {fr : Nat × Nat} (hz : W.heap[z]? = some (.cells cs T fr)) (he : e ≠ T) : v.ownBlock ≠ some z := by
  intro q
  obtain ⟨cs', h2⟩ := own_typed18 h z q
  rw [h2] at hz
  injection hz with hz
  injection hz with _ h2 _
  exact he h2
theorem own_keep18 {W W' : World} {base e size n : Nat} {v : Value} {xs : List Value} (h : W.ownsRow base e size v n xs) (he : ∀ g, v.ownBlock = some g → W'.heap[g]? = W.heap[g]?) : W'.ownsRow base e size v n xs := by
  refine ⟨h.1, ?_⟩
  rcases h.2 with hn | ⟨g, cap, cur, rfl, hb, hg, rest⟩
  · exact .inl hn
  · exact .inr ⟨g, cap, cur, rfl, hb, by rw [he g rfl]; exact hg, rest⟩
end Go.Proofs.Ytiachojhnbicaab
