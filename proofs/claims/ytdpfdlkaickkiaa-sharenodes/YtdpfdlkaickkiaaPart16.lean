/-
  Part 16 of the proof: 1 texts, one behind the other.
-/
import Derived.Test.YtdpfdlkaickkiaaPart14
import Derived.Test.YtdpfdlkaickkiaaPart15
import Derived.Test.YtdpfdlkaickkiaaPart4
import Derived.Test.YtdpfdlkaickkiaaPart7
namespace Go.Proofs.Ytdpfdlkaickkiaa
open Go.RowKit Go.Shelf
set_option linter.unusedSimpArgs false
set_option linter.unusedVariables false
attribute [local go_sem] Oper.semAt_some

def stJ (L : List Nde) (S : List Nde × List Int) (i : Nat) : List Nde × List Int := (adN S.1 (nmD S.2 (L.getD i ⟨0, []⟩)), S.2.set i (adI S.1 (nmD S.2 (L.getD i ⟨0, []⟩))))
def joinS (L : List Nde) (is : List Nat) : List Nde × List Int := is.foldl (stJ L) ([], List.replicate L.length 0)
def joinL (L : List Nde) : List Nde × List Int := joinS L (List.range L.length).reverse
structure InvJ (L : List Nde) (k : Nat) (S : List Nde × List Int) : Prop where
  o : S.2.length = L.length
  n : S.1.length ≤ k
  r : ∀ d ∈ S.1, d.r.length ≤ 1000000
theorem adN_len (NL : List Nde) (d : Nde) : (adN NL d).length ≤ NL.length + 1 := by
  unfold adN
  split <;> simp
theorem adN_in {NL : List Nde} {d x : Nde} (h : x ∈ adN NL d) : x ∈ NL ∨ x = d := by
  unfold adN at h
  split at h
  · exact .inl h
  · rcases List.mem_append.mp h with h | h
    · exact .inl h
    · exact .inr (List.mem_singleton.mp h)
theorem nmD_len (OF : List Int) (d : Nde) : (nmD OF d).r.length ≤ d.r.length := by
  have := nbG_len (fun _ r => OF.getD r.n.toNat 0) d.r [] []
  rw [List.length_nil, Nat.zero_add] at this
  exact this
theorem InvJ.step {L : List Nde} {k i : Nat} {S : List Nde × List Int} (h : InvJ L k S) (hr : ∀ d ∈ L, d.r.length ≤ 1000000) : InvJ L (k + 1) (stJ L S i) := by
  refine ⟨?_, ?_, fun x hx => ?_⟩
  · show (S.2.set i _).length = _
    rw [List.length_set]; exact h.o
  · have := adN_len S.1 (nmD S.2 (L.getD i ⟨0, []⟩))
    have := h.n
    show (adN S.1 _).length ≤ _
    omega
  · rcases adN_in hx with hx | hx
    · exact h.r x hx
    · rw [hx]
      refine Nat.le_trans (nmD_len _ _) ?_
      rw [List.getD_eq_getElem?_getD]
      cases hq : L[i]? with
      | none => simp
      | some d => exact hr d (List.mem_of_getElem? hq)
theorem joinS_app (L : List Nde) (is : List Nat) (i : Nat) : joinS L (is ++ [i]) = stJ L (joinS L is) i := by
  unfold joinS
  rw [List.foldl_append]; rfl
theorem joinS_inv (L : List Nde) (hr : ∀ d ∈ L, d.r.length ≤ 1000000) : ∀ (is : List Nat), InvJ L is.length (joinS L is) := by
  intro is
  have : ∀ (js : List Nat) (k : Nat) (S : List Nde × List Int), InvJ L k S → InvJ L (k + js.length) (js.foldl (stJ L) S) := by
    intro js
    induction js with
    | nil => intro k S h; exact h
    | cons j js ih =>
      intro k S h
      have := ih (k + 1) (stJ L S j) (h.step hr)
      rw [List.length_cons, show k + (js.length + 1) = k + 1 + js.length by omega]
      exact this
  have h0 := this is 0 ([], List.replicate L.length 0) ⟨by simp, Nat.le_refl _, fun d hd => by cases hd⟩
  rw [Nat.zero_add] at h0
  exact h0
section
variable {base B Gf M : Nat} {vn : Value} {V : List Value} {NL NK : List Nde} {OF : List Int} {es : Array MapEntry} {clock : Nat} {W W' W2 A : World} {J : Nat}
theorem JnV.setF (h : JnV base B Gf M vn V NL OF NK es clock W) (k : Nat) (m : Int) : JnV base B Gf M vn V NL (OF.set k m) NK es clock (W.setCell ⟨Gf, k, none⟩ (.int .i64 m)) := by
  have ne : ∀ {z : Nat} {cs : Array Value} {T : TypeId}, W.heap[z]? = some (.cells cs T) → 3 ≠ T → z ≠ Gf := fun hz hT q => by
    subst q
    rw [h.f] at hz
    injection hz with hz
    injection hz with _ h3 _
    exact hT h3
  refine ⟨?_, h.n.far12 h.f (by decide) (by decide), ?_, h.k.keep (far_16 (fun q => ?_)) (fun z cs _ hz => far_16 hz), h.lo⟩
  · rw [List.length_set]
    exact (far_16 (ne h.j (by decide))).trans h.j
  · rw [set_16 h.f, List.setIfInBounds_toArray, List.map_set]; rfl
  · have h9 := h.k.m
    rw [q, h.f] at h9
    cases h9
theorem JnV.kept {row : Option Nat} (h : JnV base B Gf M vn V NL OF NK es clock W) (hg : W.grownBy W' row) (hr : ∀ r, row = some r → r ≠ M ∧ ∃ o : Obj, W.heap[r]? = some o ∧ o.isCells = false) : JnV base B Gf M vn V NL OF NK es clock W' :=
  ⟨blk_16 hg (fun r e => (hr r e).2) h.j, ⟨own_16 hg (fun r e => (hr r e).2) h.n.o, h.n.l, fun i d u q1 q2 => own_16 hg (fun r e => (hr r e).2) (h.n.r i d u q1 q2), h.n.d⟩, blk_16 hg (fun r e => (hr r e).2) h.f, h.k.keep (hg.block M h.k.lt (fun e => (hr M e.symm).1 rfl)) (fun z cs hz _ => by rw [blk_16 hg (fun r e => (hr r e).2) hz, hz]), h.lo⟩
theorem KJ.kept {row : Option Nat} (h : KJ base M J A W) (hg : W.grownBy W' row) (hb : base ≤ W.heap.size) (hr : ∀ r, row = some r → A.heap.size ≤ r ∧ base ≤ r) : KJ base M J A W' :=
  ⟨h.b.grown hg hb (fun r e => (hr r e).2), fun z o h1 h2 hj h3 => by
    have h4 := h.k z o h1 h2 hj h3
    rw [hg.block z (Array.getElem?_eq_some_iff.1 h4).1 (fun e => by have := (hr z e.symm).1; have := (Array.getElem?_eq_some_iff.1 h1).1; omega)]
    exact h4⟩
theorem KJ.keeps (h : KJ base M J W W') {C : Nat} (hM : M < C) (hJ : J < C) : KeepsFrom C W W' := ⟨h.b.size, fun z o h1 h2 h3 => h.k z o h2 (by omega) (by omega) (fun cs T fr e => by rw [e] at h3; cases h3)⟩
theorem KJ.kz (h : KJ base M J W W') {x : Nat} {cs : Array Value} {T : TypeId} (hx : W.heap[x]? = some (.cells cs T)) (hT : jTy T = false) (hM : x ≠ M) (hJ : x ≠ J) : KZ (fun z => z < base ∨ z = x) W W' := ⟨h.b.size, fun z o h1 h2 => by
  rcases h2 with h2 | h2
  · rw [h.b.block z h2]; exact h1
  · subst h2
    refine h.k _ o h1 hM hJ (fun cs' T' fr' e => ?_)
    subst e
    rw [hx] at h1
    injection h1 with h1
    injection h1 with _ h3 _
    subst h3
    exact hT⟩
end
theorem NdO.same12 {W W' : World} {base : Nat} {v : Value} {V : List Value} {L : List Nde} (h : NdO W base v V L) (hs : ∀ (z : Nat) (cs : Array Value) (T : TypeId), W.heap[z]? = some (.cells cs T) → (T = 57 ∨ T = 54) → W'.heap[z]? = W.heap[z]?) : NdO W' base v V L :=
  ⟨own_keep18 h.o (fun z hz => by obtain ⟨cs, hc⟩ := own_typed18 h.o z hz; exact hs z cs _ hc (.inl rfl)), h.l, fun j d u h1 h2 => own_keep18 (h.r j d u h1 h2) (fun z hz => by obtain ⟨cs, hc⟩ := own_typed18 (h.r j d u h1 h2) z hz; exact hs z cs _ hc (.inr rfl)), h.d⟩
structure RJ (A C E R : World → Prop) (ld cd st : Bool) (X : World) : Prop where
  r : R X
  a : cd = false → A X
  c : cd = true → st = false → C X
  e : st = true → E X
  p : st = true → cd = true
  q : cd = true → ld = true
theorem RJ.setld {A C E R : World → Prop} {ld cd st : Bool} {X : World} (h : RJ A C E R ld cd st X) : RJ A C E R true cd st X := ⟨h.r, h.a, h.c, h.e, h.p, fun _ => rfl⟩
theorem RJ.nld {A C E R : World → Prop} {ld cd st : Bool} {X : World} (h : RJ A C E R ld cd st X) (hl : ld = false) : A X := h.a (by
  cases q : cd with
  | false => rfl
  | true => have := h.q q; rw [hl] at this; cases this)
theorem RJ.call {A C E R : World → Prop} {ld cd st : Bool} {X X' : World} (h : RJ A C E R ld cd st X) (hcd : cd = false) (hld : ld = true) (hr : R X') (hc : C X') : RJ A C E R ld true st X' :=
  have hs : st = false := by
    cases q : st with
    | false => rfl
    | true => have := h.p q; rw [hcd] at this; cases this
  ⟨hr, fun q => (by cases q), fun _ _ => hc, fun q => (by rw [hs] at q; cases q), fun _ => rfl, fun _ => hld⟩
theorem RJ.sto {A C E R : World → Prop} {ld cd st : Bool} {X X' : World} (h : RJ A C E R ld cd st X) (hcd : cd = true) (hr : R X') (he : E X') : RJ A C E R ld cd true X' :=
  ⟨hr, fun q => (by rw [hcd] at q; cases q), fun _ q => (by cases q), fun _ => he, fun _ => hcd, h.q⟩
theorem plcN_mem {l : List Nv} {xi : Int} {x : Nv} (h : (xi, x) ∈ plcN l) : ∃ i : Nat, xi = (i : Int) ∧ l[i]? = some x := by
  obtain ⟨i, hi⟩ := List.getElem?_of_mem h
  unfold plcN at hi
  rw [List.getElem?_mapIdx] at hi
  cases hq : l[i]? with
  | none => rw [hq] at hi; cases hi
  | some y =>
    rw [hq] at hi
    have h2 := Option.some.inj hi
    injection h2 with h3 h4
    subst h4
    exact ⟨i, h3.symm, hq⟩
theorem arr22j (t : Array Value) (h : t.size = 22) : ∃ u : Nat → Value, (∀ i, u i = t.getD i undef) ∧ t = #[u 0, u 1, u 2, u 3, u 4, u 5, u 6, u 7, u 8, u 9, u 10, u 11, u 12, u 13, u 14, u 15, u 16, u 17, u 18, u 19, u 20, u 21] := by
  refine ⟨fun i => t.getD i undef, fun _ => rfl, ?_⟩
  obtain ⟨l⟩ := t
  have h' : l.length = 22 := h
  have e : l = (List.range 22).map (fun i => (⟨l⟩ : Array Value).getD i undef) := by
    apply List.ext_getElem
    · simp [h']
    · intro i h1 h2
      simp [Array.getD, h1]
  have e2 : (List.range 22).map (fun i => (⟨l⟩ : Array Value).getD i undef) = [(⟨l⟩ : Array Value).getD 0 undef, (⟨l⟩ : Array Value).getD 1 undef, (⟨l⟩ : Array Value).getD 2 undef, (⟨l⟩ : Array Value).getD 3 undef, (⟨l⟩ : Array Value).getD 4 undef, (⟨l⟩ : Array Value).getD 5 undef, (⟨l⟩ : Array Value).getD 6 undef, (⟨l⟩ : Array Value).getD 7 undef, (⟨l⟩ : Array Value).getD 8 undef, (⟨l⟩ : Array Value).getD 9 undef, (⟨l⟩ : Array Value).getD 10 undef, (⟨l⟩ : Array Value).getD 11 undef, (⟨l⟩ : Array Value).getD 12 undef, (⟨l⟩ : Array Value).getD 13 undef, (⟨l⟩ : Array Value).getD 14 undef, (⟨l⟩ : Array Value).getD 15 undef, (⟨l⟩ : Array Value).getD 16 undef, (⟨l⟩ : Array Value).getD 17 undef, (⟨l⟩ : Array Value).getD 18 undef, (⟨l⟩ : Array Value).getD 19 undef, (⟨l⟩ : Array Value).getD 20 undef, (⟨l⟩ : Array Value).getD 21 undef] := rfl
  rw [e2] at e
  exact congrArg _ e
theorem idx_n12 (l : List Nv) : ((plcN l).reverse.map fun x => x.1.toNat) = (List.range l.length).reverse := by
  rw [List.map_reverse]
  congr 1
  apply List.ext_getElem?
  intro i
  unfold plcN
  rw [List.getElem?_map, List.getElem?_mapIdx]
  by_cases hi : i < l.length
  · rw [List.getElem?_eq_getElem hi, List.getElem?_range hi]; rfl
  · rw [List.getElem?_eq_none (by omega), List.getElem?_eq_none (by simp; omega)]; rfl
set_option maxRecDepth 100000 in
set_option maxHeartbeats 16000000 in
theorem join12_any (v : Value) (L : List Nde) (w : World) (hv : RwD w v L) (hl : L.length ≤ 1000000) (hr : ∀ d ∈ L, d.r.length ≤ 1000000) (hb : ∀ d ∈ L, 0 ≤ d.b ∧ d.b ≤ 128) (hk : ∀ d ∈ L, ∀ r ∈ d.r, r.k = true → 0 ≤ r.n ∧ r.n < (L.length : Int)) :
    Calls Try.prog 25 #[v] w fun e w' => ∃ vn V Gf M, e = .returned (.agg #[vn, .slice (some ⟨Gf, 0, none⟩) L.length L.length, .map (some M)]) ∧ NdO w' w.heap.size vn V (joinL L).1 ∧ w'.heap[Gf]? = some (.cells ((joinL L).2.map cI).toArray 3) ∧ w.heap.size ≤ Gf ∧ Below w.heap.size w w' := by
  obtain ⟨k0, ki, kz0, kz1, kz2⟩ := info13 Try.infoN16
  obtain ⟨l, hll, hlv, hln⟩ := rwd_nv hv
  obtain ⟨ao, c, hvf, -⟩ := id hlv
  subst hvf
  have HLv := hid13 hlv
  have HLn := hid13 hln
  have HL : Hid (L.length ≤ 1000000 ∧ l.length = L.length ∧ l.length ≤ 1000000) := ⟨hl, hll, by omega⟩
  have HRr := hid13 hr
  have HBb := hid13 hb
  have HKk := hid13 hk
  have HJi := hid13 (joinS_inv L hr)
  rw [← hll]
  have hmm := @run_makeMap Try.prog
  have KK := fun w => backN_any ao l.length c w
  have q1 := bl1 w (.cells #[.slice none 0 0, .slice none 0 0, .map none] 64)
  have n1 := new_16 w (.cells #[.slice none 0 0, .slice none 0 0, .map none] 64)
  have s1 : (w.alloc (.cells #[.slice none 0 0, .slice none 0 0, .map none] 64)).heap.size = w.heap.size + 1 := World.size_alloc ..
  have hll2 : l.length ≤ 1000000 := by omega
  clear hv hlv hln hl hr hb hk hll
  refine (callsIn_wide (n := 9)).1 ?_
  refine callsIn_of_wp_marks Try.func25 rfl trivial ?_ rfl
  simp only [Try.ntmps25, List.size_toArray, List.length_cons, List.length_nil, Nat.reduceAdd, Nat.reduceSub, Array.replicate_succ, Array.replicate_zero, List.push_toArray, List.append_toArray, List.nil_append, List.cons_append]
  refine wpIn_wide.2 ?_
  go_wp2_with (at_make; apply stopHere9)
  refine (show wpList _ _ _ _ _ _ from ?_)
  revert q1 n1 s1
  generalize w.alloc (.cells #[.slice none 0 0, .slice none 0 0, .map none] 64) = W1
  intro q1 n1 s1
  refine wpList_make16 _ rfl _ _ 61 rfl 3 k0 (.int .i64 0) Try.underlying61 ki kz0 .i64 .i64 _ _ l.length l.length rfl rfl rfl rfl (Nat.le_refl _) (by rw [kz2]; omega) (by unfold maxLen; omega) ?_
  have eO : madeCells (Value.int IntKind.i64 0).cells (l.length * k0.size) = ((List.replicate l.length (0 : Int)).map cI).toArray := by rw [kz1, Nat.mul_one, List.map_replicate]; exact made_one16 _ _
  rw [eO]
  clear eO
  have q2 := bl1 W1 (.cells ((List.replicate l.length (0 : Int)).map cI).toArray 3)
  have n2 := new_16 W1 (.cells ((List.replicate l.length (0 : Int)).map cI).toArray 3)
  have s2 : (W1.alloc (.cells ((List.replicate l.length (0 : Int)).map cI).toArray 3)).heap.size = W1.heap.size + 1 := World.size_alloc ..
  generalize W1.alloc (.cells ((List.replicate l.length (0 : Int)).map cI).toArray 3) = W2 at *
  have q3 := bl1 W2 (.map #[] 0)
  have n3 := new_16 W2 (.map #[] 0)
  have s3 : (W2.alloc (.map #[] 0)).heap.size = W2.heap.size + 1 := World.size_alloc ..
  have q4 := bl1 (W2.alloc (.map #[] 0)) (.cells #[.slice none 0 0, .slice (some ⟨W1.heap.size, 0, none⟩) l.length l.length, .map (some W2.heap.size)] 64)
  have n4 := new_16 (W2.alloc (.map #[] 0)) (.cells #[.slice none 0 0, .slice (some ⟨W1.heap.size, 0, none⟩) l.length l.length, .map (some W2.heap.size)] 64)
  rw [s3] at n4
  have hb4 := keepb q4 (keepb q3 (keepb q2 q1))
  have HJ0 : Hid (∀ X, X = (W2.alloc (.map #[] 0)).alloc (.cells #[.slice none 0 0, .slice (some ⟨W1.heap.size, 0, none⟩) l.length l.length, .map (some W2.heap.size)] 64) → JnV w.heap.size (W2.heap.size + 1) W1.heap.size W2.heap.size (.slice none 0 0) [] [] (List.replicate l.length 0) [] #[] 0 X ∧ Below w.heap.size w X ∧ X.heap[w.heap.size]? = some (.cells #[.slice none 0 0, .slice none 0 0, .map none] 64) ∧ X.heap.size = W2.heap.size + 2) := hid13 (by
    rintro X rfl
    refine ⟨⟨by rw [List.length_replicate]; exact n4, NdO.nil (World.ownsRow_nil _ _ _ _), ((keepb q4 q3).block _ (lt_16 n2)).trans n2, ⟨(q4.block _ (by omega)).trans n3, Go.MapKept.stamped_empty 0, fun e he => (by simp at he), fun e he => (by simp at he), fun d hd => (by cases hd), fun i j e f z h1 => (by simp at h1), fun e he => (by simp at he)⟩, ⟨by omega, by omega, by omega⟩⟩, hb4, ((keepb q4 (keepb q3 q2)).block _ (lt_16 n1)).trans n1, by rw [World.size_alloc, s3]⟩)
  have HSz : Hid (w.heap.size < W1.heap.size ∧ W2.heap.size = W1.heap.size + 1) := ⟨by omega, s2⟩
  clear q1 q2 q3 q4 n1 n2 n3 n4 s1 s2 s3 hb4
  go_wp2_with fail
  revert HJ0
  generalize (W2.alloc (.map #[] 0)).alloc (.cells #[.slice none 0 0, .slice (some ⟨W1.heap.size, 0, none⟩) l.length l.length, .map (some W2.heap.size)] 64) = W4
  generalize hM : W2.heap.size = M at *
  generalize hG : W1.heap.size = Gf at *
  intro HJ0
  obtain ⟨hj4, hb4, hn4, hs4⟩ := HJ0.out W4 rfl
  refine (KK W4).mono ?_
  rintro e W5 ⟨rfl, hW5⟩
  have q5 : Below W4.heap.size W4 W5 := by rw [hW5]; exact bl1 _ _
  have s5 : W5.heap.size = W4.heap.size + 1 := by rw [hW5]; exact World.size_alloc ..
  have n5 : W5.heap[W4.heap.size]? = some (.cells #[.slice ao l.length c] 22) := by rw [hW5]; exact new_16 _ _
  have HJ5 := hid13 (hj4.below q5)
  have HB5 := hid13 (keepb q5 hb4)
  have HR5 := hid13 ((q5.block _ (lt_16 hn4)).trans hn4)
  have HN5 := hid13 n5
  have HS5 : Hid (W5.heap.size = M + 3 ∧ W4.heap.size = M + 2 ∧ w.heap.size < Gf ∧ M = Gf + 1) := ⟨by omega, hs4, HSz.out.1, HSz.out.2⟩
  rw [hs4] at n5 HN5 ⊢
  clear hj4 hb4 hn4 hs4 hW5 q5 s5 HJ0 HSz KK hM hG
  go_wp2_with fail
  refine (wpIn_wide (n := 9)).1 ?_
  refine rangeX 9 (by decide) (gf := 71) (lb := #[.pointer (some ⟨M + 2, 0, none⟩)]) rfl (enters_of Try.func71 (by kernel_rfl) rfl)
    (backN1_any (9 - 1) (fun z => z < w.heap.size ∨ z = M + 2) (M + 2) ao c l (by have := HL.out; omega) 0 W5 ⟨at_16 n5 0 _ rfl, .inr rfl, HLv.out.below HB5.out, fun hne ad e => .inl (by
      obtain ⟨ao', c', e', -, h9⟩ := HLv.out
      injection e' with e1 e2 e3
      subst e1
      rcases h9 with h9 | ⟨b9, o9, e9, h9⟩
      · exact absurd h9 hne
      · rw [e9] at e
        cases e
        obtain ⟨r, t, hrt⟩ := List.exists_cons_of_ne_nil hne
        exact cell_in (h9 0 r (by rw [hrt]; rfl)).1)⟩) (Nat.zero_le _) (fun h k => h.trans k) (fun V o o' h1 h2 => kz_put (by have := HS5.out; rintro (q | q) <;> omega) V o o' h1 h2) (Below.refl _ _) (fun _ => rfl)
    (fun pre V => (∃ vn VV es ck, JnV w.heap.size (M + 1) Gf M vn VV (joinS L (pre.map fun x : Int × Nv => x.1.toNat)).1 (joinS L (pre.map fun x : Int × Nv => x.1.toNat)).2 (joinS L (pre.map fun x : Int × Nv => x.1.toNat)).1 es ck V) ∧ KJ w.heap.size M (M + 1) W5 V ∧ V.heap[M + 2]? = some (.cells #[.slice ao l.length c] 22) ∧ V.heap[w.heap.size]? = some (.cells #[.slice none 0 0, .slice none 0 0, .map none] 64))
    (fun c pre V => False)
    (fun s X Y row hs hg hr => by
      obtain ⟨⟨vn, VV, es, ck, h1⟩, h2, h3, h4⟩ := hs
      refine ⟨⟨vn, VV, es, ck, h1.kept hg (fun r e => ⟨by have := (hr r e).1; have := HS5.out; omega, (hr r e).2⟩)⟩, h2.kept hg h1.lob (fun r e => ⟨(hr r e).1, by have := (hr r e).1; have := HS5.out; omega⟩), blk_16 hg (fun r e => (hr r e).2) h3, blk_16 hg (fun r e => (hr r e).2) h4⟩)
    (fun c s X Y row hs hg hr => hs)
    ⟨⟨_, _, _, _, by rw [show joinS L (([] : List (Int × Nv)).map fun x : Int × Nv => x.1.toNat) = ([], List.replicate l.length 0) from by rw [HL.out.2.1]; rfl]; exact HJ5.out⟩, KJ.refl _, HN5.out, HR5.out⟩
    (fun x a V => ∃ Bx, V.heap[Bx]? = some (.cells #[.int .i64 x.2.1, .slice x.2.2.1 x.2.2.2.1 x.2.2.2.2] 57) ∧ W5.heap.size ≤ Bx ∧ a.tmps.size = 22 ∧ a.tmps.getD 3 undef = .pointer (some ⟨M + 1, 0, none⟩) ∧ a.tmps.getD 4 undef = .int .i64 x.1 ∧ a.tmps.getD 5 undef = .pointer (some ⟨Bx, 0, none⟩) ∧ a.defers = [])
    (fun x a' s A B row hs hg hr => by
      obtain ⟨Bx, h1, h2⟩ := hs
      exact ⟨Bx, blk_16 hg (fun r e => (hr r e).2) h1, h2⟩)
    ?assign ?body ?done ?stop
  case assign =>
    rintro lo pre x V K ⟨⟨vn, VV, es, ck, h1⟩, h2, h3, h4⟩ hK
    obtain ⟨xi, xb, xa, xn, xc⟩ := x
    have bq := bl1 V (.cells #[.int .i64 xb, .slice xa xn xc] 57)
    have nq := new_16 V (.cells #[.int .i64 xb, .slice xa xn xc] 57)
    have HKK := hid13 (fun a' h => hK a' _ (kf_below bq) (kz_below bq) ⟨⟨vn, VV, es, ck, h1.below bq⟩, h2.trans (KJ.below bq h1.lob), (bq.block _ (lt_16 h3)).trans h3, (bq.block _ (lt_16 h4)).trans h4⟩ ⟨V.heap.size, nq, h2.b.size, h⟩)
    clear hK bq nq h1 h2 h3 h4
    unfold encN
    simp only [List.zip_toArray, List.zip_cons_cons, List.zip_nil_left, List.zip_nil_right, List.foldl_toArray, List.foldl_cons, List.foldl_nil, List.setIfInBounds_toArray, List.set_cons_zero, List.set_cons_succ, Array.zip]
    gi_wp2
    refine HKK.out _ ?_
    exact ⟨rfl, rfl, rfl, rfl, rfl⟩
  case body =>
    rintro lo pre ⟨xi, xb, xa, xn, xc⟩ ⟨tm, df⟩ V hlo - ⟨⟨vn, VV, es, ck, hj⟩, hf, hbk, hrs⟩ ⟨Bx, hbx, hBx, hs, h3, h4, h5, hdf⟩ hsp
    dsimp only at hs h3 h4 h5 hdf hbx
    obtain ⟨u1, hu, htm⟩ := arr22j tm hs
    rw [← hu] at h3 h4 h5
    rw [htm, hdf, h3, h4, h5]
    clear hu htm hs hdf h3 h4 h5 tm df
    have hmem := List.mem_reverse.mp (hsp.mem (by simp) : (xi, xb, xa, xn, xc) ∈ (plcN l).reverse)
    obtain ⟨i, hxi, hli⟩ := plcN_mem hmem
    subst hxi
    have hil : i < L.length := by rw [← HL.out.2.1]; exact (List.getElem?_eq_some_iff.mp hli).1
    obtain ⟨d, hd⟩ : ∃ d, L[i]? = some d := ⟨_, List.getElem?_eq_getElem hil⟩
    obtain ⟨x9, hx1, hx2, hx3, hx4⟩ := HLn.out i d hd
    rw [hli] at hx1
    have hx5 := Option.some.inj hx1
    subst hx5
    dsimp only at hx2 hx3 hx4
    have hpl : pre.length < l.length := by
      have := hsp.length_le
      rw [List.length_append, List.length_reverse, plcN_len, List.length_singleton] at this
      omega
    obtain ⟨S, hS⟩ : ∃ S, S = joinS L (pre.map fun x : Int × Nv => x.1.toNat) := ⟨_, rfl⟩
    have hSi := HJi.out (pre.map fun x : Int × Nv => x.1.toNat)
    rw [List.length_map, ← hS] at hSi
    rw [← hS] at hj
    have hgd : L.getD i ⟨0, []⟩ = d := by rw [List.getD_eq_getElem?_getD, hd]; rfl
    have HSx : Hid (joinS L ((pre ++ [((i : Int), xb, xa, xn, xc)]).map fun x : Int × Nv => x.1.toNat) = (adN S.1 (nmD S.2 d), S.2.set i (adI S.1 (nmD S.2 d)))) := hid13 (by
      rw [List.map_append, List.map_cons, List.map_nil, joinS_app, ← hS]
      unfold stJ
      rw [Int.toNat_natCast, hgd])
    have hmd := List.mem_of_getElem? hd
    have HD : Hid (d = ⟨xb, d.r⟩) := hid13 (by rw [hx2])
    have HRn := hid13 hx4
    have HSi := hid13 hSi
    have HDd : Hid (d.r.length ≤ 1000000 ∧ (0 ≤ xb ∧ xb ≤ 128) ∧ (∀ r ∈ d.r, r.k = true → 0 ≤ r.n ∧ r.n < (S.2.length : Int)) ∧ S.1.length ≤ 1000000 ∧ i < S.2.length) := hid13 ⟨HRr.out d hmd, by rw [hx2]; exact HBb.out d hmd, fun r h1 h2 => by rw [hSi.o]; exact HKk.out d hmd r h1 h2, by have := hSi.n; have := HL.out; omega, by rw [hSi.o]; exact hil⟩
    obtain ⟨AI, hAI⟩ : ∃ AI, AI = adI S.1 (nmD S.2 d) := ⟨_, rfl⟩
    have HAI : Hid (adI S.1 (nmD S.2 d) = AI) := hAI.symm
    rw [HAI.out] at HSx
    have HSl : Hid (S.2.length = l.length) := hid13 (by rw [hSi.o, HL.out.2.1])
    have hili : (i : Int) < (l.length : Int) := by have := HL.out.2.1; omega
    have HF5 := hid13 hf
    have HX0 : Hid (V.heap[M + 2]? = some (.cells #[.slice ao l.length c] 22) ∧ V.heap[w.heap.size]? = some (.cells #[.slice none 0 0, .slice none 0 0, .map none] 64)) := ⟨hbk, hrs⟩
    have HRJ : Hid (RJ (fun X => (∃ vn VV es ck, JnV w.heap.size (M + 1) Gf M vn VV S.1 S.2 S.1 es ck X) ∧ KJ w.heap.size M (M + 1) V X ∧ X.heap[Bx]? = some (.cells #[.int .i64 xb, .slice xa xn xc] 57)) (fun X => (∃ vn VV es ck, JnV w.heap.size (M + 1) Gf M vn VV (adN S.1 (nmD S.2 d)) S.2 (adN S.1 (nmD S.2 d)) es ck X) ∧ KJ w.heap.size M (M + 1) V X) (fun X => (∃ vn VV es ck, JnV w.heap.size (M + 1) Gf M vn VV (adN S.1 (nmD S.2 d)) (S.2.set i AI) (adN S.1 (nmD S.2 d)) es ck X) ∧ KJ w.heap.size M (M + 1) V X) (fun X => X.cell? ⟨M + 1, 1, none⟩ = some (.slice (some ⟨Gf, 0, none⟩) l.length l.length)) false false false V.drew) := hid13 (by
      have qd : Below V.heap.size V V.drew := (Below.refl _ _).drew
      refine ⟨?_, fun _ => ⟨⟨vn, VV, es, ck, hj.below qd⟩, KJ.below qd hj.lob, (qd.block _ (lt_16 hbx)).trans hbx⟩, fun q => (by cases q), fun q => (by cases q), fun q => (by cases q), fun q => (by cases q)⟩
      have h9 := at_16 (hj.below qd).j 1 _ rfl
      rw [HSl.out] at h9
      exact h9)
    have HVw : Hid (Below w.heap.size w V) := hid13 (HB5.out.trans HF5.out.b)
    clear hmem hli hil hd hx1 hx2 hx3 hx4 hpl hS hSi hgd hmd hAI hj hf hbk hrs hbx hsp
    gi_wp2_with fail
    refine gh_regionR (γ := Unit) (qpOk 7 7 (by decide) (fun N => by kernel_rfl) (by kernel_rfl) (by kernel_rfl) (by kernel_rfl) (by kernel_rfl)) (by kernel_rfl) (by kernel_rfl) (by kernel_rfl) (by rintro ⟨_, _, h⟩; exact h) [some 15, some 16, some 17, some 18, some 19, some 20, none] (fun g => [.pointer (some ⟨M + 1, 1, none⟩), .slice (some ⟨Gf, 0, none⟩) l.length l.length, .int .i64 (i : Int), .agg #[.int .i64 xb, .slice xa xn xc], .int .i64 AI, .pointer (some ⟨Gf, i, none⟩), undef]) (by kernel_rfl) (by simp) (fun lp g X => RJ (fun X => (∃ vn VV es ck, JnV w.heap.size (M + 1) Gf M vn VV S.1 S.2 S.1 es ck X) ∧ KJ w.heap.size M (M + 1) V X ∧ X.heap[Bx]? = some (.cells #[.int .i64 xb, .slice xa xn xc] 57)) (fun X => (∃ vn VV es ck, JnV w.heap.size (M + 1) Gf M vn VV (adN S.1 (nmD S.2 d)) S.2 (adN S.1 (nmD S.2 d)) es ck X) ∧ KJ w.heap.size M (M + 1) V X) (fun X => (∃ vn VV es ck, JnV w.heap.size (M + 1) Gf M vn VV (adN S.1 (nmD S.2 d)) (S.2.set i AI) (adN S.1 (nmD S.2 d)) es ck X) ∧ KJ w.heap.size M (M + 1) V X) (fun X => X.cell? ⟨M + 1, 1, none⟩ = some (.slice (some ⟨Gf, 0, none⟩) l.length l.length)) (lp.getD 3 false) (lp.getD 4 false) (lp.getD 6 false) X) () HRJ.out ?step5 ?fin5
    case step5 =>
      intro q o lp g w' a' ho hsz hun hdep hR hS K Q' hK
      have hfl : ∀ j, j ≠ q → (lp.setIfInBounds q true).getD j false = lp.getD j false := fun j hj => by rw [Array.getD_eq_getD_getElem?, Array.getD_eq_getD_getElem?, Array.getElem?_setIfInBounds_ne (by omega)]
      have hq : q < 7 := (List.getElem?_eq_some_iff.mp ho).1
      match q, ho, hun, hdep, hK, hfl, hq with
      | 0, ho, hun, hdep, hK, hfl, _ =>
        obtain rfl := Option.some.inj ho
        have o3 : a'.tmps[3]? = some (.pointer (some ⟨M + 1, 0, none⟩)) := (hS.old14 3 (by simp)).trans rfl
        have hK' := hK g w' (fun _ _ _ _ _ _ => rfl) (by rw [hfl 3 (by decide), hfl 4 (by decide), hfl 6 (by decide)]; exact hR) (.pointer (some ⟨M + 1, 1, none⟩)) (by simp only [valO, Option.bind_some]; (try simp only [putAll, Act.put, List.setIfInBounds_toArray, List.set_cons_zero, List.set_cons_succ]); (try rfl))
        clear hS hdep hR
        refine gh_quiet14 (v := .pointer (some ⟨M + 1, 1, none⟩)) ?_ ?_
        · (simp only [execOp, Act.eval, o3]; go_simp; first | done | (simp; done) | (simp [*]; done) | omega | (rw [IntKind.wrap_i64]; omega))
        · exact hK'
      | 1, ho, hun, hdep, hK, hfl, _ =>
        obtain rfl := Option.some.inj ho
        have d0 : lp.getD 0 false = true := hdep { on := 0, ground := .data } (by simp) rfl
        have e15 : a'.tmps[15]? = some (.pointer (some ⟨M + 1, 1, none⟩)) := (hS.don 0 _ 15 rfl d0 rfl).trans (by simp only [putAll, Act.put, List.setIfInBounds_toArray, List.set_cons_zero, List.set_cons_succ]; rfl)
        have k1 := hR.r
        have hK' := hK g w' (fun _ _ _ _ _ _ => rfl) (by rw [hfl 3 (by decide), hfl 4 (by decide), hfl 6 (by decide)]; exact hR) (.slice (some ⟨Gf, 0, none⟩) l.length l.length) (by simp only [valO, Option.bind_some]; (try simp only [putAll, Act.put, List.setIfInBounds_toArray, List.set_cons_zero, List.set_cons_succ]); (try rfl))
        clear hS hdep hR
        refine gh_quiet14 (v := .slice (some ⟨Gf, 0, none⟩) l.length l.length) ?_ ?_
        · (simp only [execOp, Act.eval, e15]; go_simp; first | done | (simp; done) | (simp [*]; done) | omega | (rw [IntKind.wrap_i64]; omega))
        · exact hK'
      | 2, ho, hun, hdep, hK, hfl, _ =>
        obtain rfl := Option.some.inj ho
        have o4 : a'.tmps[4]? = some (.int .i64 (i : Int)) := (hS.old14 4 (by simp)).trans rfl
        have hK' := hK g w' (fun _ _ _ _ _ _ => rfl) (by rw [hfl 3 (by decide), hfl 4 (by decide), hfl 6 (by decide)]; exact hR) (.int .i64 (i : Int)) (by simp only [valO, Option.bind_some]; (try simp only [putAll, Act.put, List.setIfInBounds_toArray, List.set_cons_zero, List.set_cons_succ]); (try rfl))
        clear hS hdep hR
        refine gh_quiet14 (v := .int .i64 (i : Int)) ?_ ?_
        · (simp only [execOp, Act.eval, o4]; go_simp; first | done | (simp; done) | (simp [*]; done) | omega | (rw [IntKind.wrap_i64]; omega))
        · exact hK'
      | 3, ho, hun, hdep, hK, hfl, _ =>
        obtain rfl := Option.some.inj ho
        have o5 : a'.tmps[5]? = some (.pointer (some ⟨Bx, 0, none⟩)) := (hS.old14 5 (by simp)).trans rfl
        have k1 := at_16 (hR.nld hun).2.2 0 _ rfl
        have k2 := at_16 (hR.nld hun).2.2 1 _ rfl
        have hK' := hK g w' (fun _ _ _ _ _ _ => rfl) (by rw [hfl 4 (by decide), hfl 6 (by decide), getD_set_same (by rw [hsz]; decide)]; exact hR.setld) (.agg #[.int .i64 xb, .slice xa xn xc]) (by simp only [valO, Option.bind_some]; (try simp only [putAll, Act.put, List.setIfInBounds_toArray, List.set_cons_zero, List.set_cons_succ]); (try rfl))
        clear hS hdep hR
        refine gh_quiet14 (v := .agg #[.int .i64 xb, .slice xa xn xc]) ?_ ?_
        · (simp only [execOp, Act.eval, o5]; go_simp; first | done | (simp; done) | (simp [*]; done) | omega | (rw [IntKind.wrap_i64]; omega))
        · exact hK'
      | 4, ho, hun, hdep, hK, hfl, _ =>
        obtain rfl := Option.some.inj ho
        have o3 : a'.tmps[3]? = some (.pointer (some ⟨M + 1, 0, none⟩)) := (hS.old14 3 (by simp)).trans rfl
        have d3 : lp.getD 3 false = true := hdep { on := 3, ground := .data } (by simp) rfl
        have e18 : a'.tmps[18]? = some (.agg #[.int .i64 xb, .slice xa xn xc]) := (hS.don 3 _ 18 rfl d3 rfl).trans (by simp only [putAll, Act.put, List.setIfInBounds_toArray, List.set_cons_zero, List.set_cons_succ]; rfl)
        obtain ⟨⟨vn1, V1, es1, ck1, hj1⟩, hf1, -⟩ := hR.a hun
        have KC := add12_any w' w.heap.size (M + 1) Gf M vn1 V1 S.1 S.2 es1 ck1 hj1 xb (.slice xa xn xc) d.r (HRn.out.below (HVw.out.trans hf1.b)) HDd.out.1 (by have := HDd.out.2.1; omega) (by have := HDd.out.2.1; omega) HDd.out.2.2.1 HDd.out.2.2.2.1 HSi.out.r
        rw [← HD.out, HAI.out] at KC
        clear hdep
        unfold Oper.wp
        simp only [execOp, Act.eval, Array.getD_eq_getD_getElem?]
        simp [go_sem, o3, e18, Oper.upon]
        refine KC.mono ?_
        rintro e W9 ⟨vn2, V2, es2, ck2, rfl, hj2, hf2⟩
        exact hK g W9 (fun _ _ _ _ _ _ => rfl) (by rw [hfl 3 (by decide), hfl 6 (by decide), getD_set_same (by rw [hsz]; decide)]; exact hR.call hun d3 (by have h9 := at_16 hj2.j 1 _ rfl; rw [HSl.out] at h9; exact h9) ⟨⟨vn2, V2, es2, ck2, hj2⟩, hf1.trans hf2⟩) _ (by simp only [valO, Option.bind_some]; simp only [putAll, Act.put, List.setIfInBounds_toArray, List.set_cons_zero, List.set_cons_succ]; rfl)
      | 5, ho, hun, hdep, hK, hfl, _ =>
        obtain rfl := Option.some.inj ho
        have d1 : lp.getD 1 false = true := hdep { on := 1, ground := .data } (by simp) rfl
        have e16 : a'.tmps[16]? = some (.slice (some ⟨Gf, 0, none⟩) l.length l.length) := (hS.don 1 _ 16 rfl d1 rfl).trans (by simp only [putAll, Act.put, List.setIfInBounds_toArray, List.set_cons_zero, List.set_cons_succ]; rfl)
        have d2 : lp.getD 2 false = true := hdep { on := 2, ground := .data } (by simp) rfl
        have e17 : a'.tmps[17]? = some (.int .i64 (i : Int)) := (hS.don 2 _ 17 rfl d2 rfl).trans (by simp only [putAll, Act.put, List.setIfInBounds_toArray, List.set_cons_zero, List.set_cons_succ]; rfl)
        have hK' := hK g w' (fun _ _ _ _ _ _ => rfl) (by rw [hfl 3 (by decide), hfl 4 (by decide), hfl 6 (by decide)]; exact hR) (.pointer (some ⟨Gf, i, none⟩)) (by simp only [valO, Option.bind_some]; (try simp only [putAll, Act.put, List.setIfInBounds_toArray, List.set_cons_zero, List.set_cons_succ]); (try rfl))
        clear hS hdep hR
        refine gh_quiet14 (v := .pointer (some ⟨Gf, i, none⟩)) ?_ ?_
        · (simp only [execOp, Act.eval, e16, e17]; go_simp; first | done | (simp; done) | (simp [*]; done) | omega | (rw [IntKind.wrap_i64]; omega))
        · exact hK'
      | 6, ho, hun, hdep, hK, hfl, _ =>
        obtain rfl := Option.some.inj ho
        have d5 : lp.getD 5 false = true := hdep { on := 5, ground := .data } (by simp) rfl
        have e20 : a'.tmps[20]? = some (.pointer (some ⟨Gf, i, none⟩)) := (hS.don 5 _ 20 rfl d5 rfl).trans (by simp only [putAll, Act.put, List.setIfInBounds_toArray, List.set_cons_zero, List.set_cons_succ]; rfl)
        have d4 : lp.getD 4 false = true := hdep { on := 4, ground := .data } (by simp) rfl
        have e19 : a'.tmps[19]? = some (.int .i64 AI) := (hS.don 4 _ 19 rfl d4 rfl).trans (by simp only [putAll, Act.put, List.setIfInBounds_toArray, List.set_cons_zero, List.set_cons_succ]; rfl)
        obtain ⟨⟨vn2, V2, es2, ck2, hj2⟩, hf2⟩ := hR.c d4 hun
        have hj3 := hj2.setF i AI
        have k1 : w'.cell? ⟨Gf, i, none⟩ = some (.int .i64 (S.2.getD i 0)) := at_16 hj2.f i _ (by rw [List.getElem?_toArray, List.getElem?_map, List.getElem?_eq_getElem HDd.out.2.2.2.2, List.getD_eq_getElem?_getD, List.getElem?_eq_getElem HDd.out.2.2.2.2]; rfl)
        have kf := fr_16 (j := i) hj2.f
        have hK' := hK g (w'.setCell ⟨Gf, i, none⟩ (.int .i64 AI)) (fun _ _ _ _ _ _ => rfl) (by rw [hfl 3 (by decide), hfl 4 (by decide), getD_set_same (by rw [hsz]; decide)]; exact hR.sto d4 (by have h9 := at_16 hj3.j 1 _ rfl; rw [List.length_set, HSl.out] at h9; exact h9) ⟨⟨vn2, V2, es2, ck2, hj3⟩, hf2.trans (KJ.set hj2.f (by decide) hj2.lo.2.1 _)⟩) undef rfl
        clear hS hdep hR hK hj2 hf2 hj3
        unfold Oper.wp
        simp only [execOp, Act.eval, Array.getD_eq_getD_getElem?]
        simp [go_sem, e20, e19, k1, kf, Oper.upon]
        exact hK'
      | n + 7, ho, hun, hdep, hK, hfl, hq => exact absurd hq (by omega)
    case fin5 =>
      intro g V8 hR
      obtain ⟨⟨vn2, V2, es2, ck2, hj2⟩, hf2⟩ := hR.e (by simp)
      have hM5 : M < W5.heap.size := by have := HS5.out; omega
      have hx8 : V8.heap[M + 2]? = some (.cells #[.slice ao l.length c] 22) := hf2.k _ _ HX0.out.1 (by omega) (by omega) (fun cs T fr e => by injection e with _ e2 _; subst e2; decide)
      have hy8 : V8.heap[w.heap.size]? = some (.cells #[.slice none 0 0, .slice none 0 0, .map none] 64) := hf2.k _ _ HX0.out.2 (by have := HS5.out; omega) (by have := HS5.out; omega) (fun cs T fr e => by injection e with _ e2 _; subst e2; decide)
      refine ⟨hf2.keeps hM5 (by have := HS5.out; omega), hf2.kz HX0.out.1 (by decide) (by omega) (by omega), ⟨vn2, V2, es2, ck2, ?_⟩, HF5.out.trans hf2, hx8, hy8⟩
      rw [HSx.out]
      exact hj2
  case done =>
    rintro D ys V hDm rfl ⟨⟨vn, VV, es, ck, hj⟩, hf, hbk, hrs⟩ hK
    have hjl : joinS L ((plcN l).reverse.map fun x : Int × Nv => x.1.toNat) = joinL L := by
      rw [idx_n12, HL.out.2.1]; rfl
    rw [hjl] at hj
    have hjo : (joinL L).2.length = l.length := by
      have := (HJi.out (List.range L.length).reverse).o
      rw [HL.out.2.1]; exact this
    obtain ⟨va, vc, hvn⟩ := own_form hj.n.o
    subst hvn
    have hj3 := hj.j
    rw [hjo] at hj3
    have j0 := at_16 hj3 0 _ rfl
    have j1 := at_16 hj3 1 _ rfl
    have j2 := at_16 hj3 2 _ rfl
    have r0 := at_16 hrs 0 _ rfl
    have r1 := at_16 hrs 1 _ rfl
    have r2 := at_16 hrs 2 _ rfl
    have rf0 := fr_16 (j := 0) hrs
    have rf1 := fr_16 (j := 1) hrs
    have rf2 := fr_16 (j := 2) hrs
    obtain ⟨U, hU⟩ : ∃ U, U = ((V.setCell ⟨w.heap.size, 0, none⟩ (.slice va (joinL L).1.length vc)).setCell ⟨w.heap.size, 1, none⟩ (.slice (some ⟨Gf, 0, none⟩) l.length l.length)).setCell ⟨w.heap.size, 2, none⟩ (.map (some M)) := ⟨_, rfl⟩
    have y1 : (V.setCell ⟨w.heap.size, 0, none⟩ (.slice va (joinL L).1.length vc)).heap[w.heap.size]? = some (.cells #[.slice va (joinL L).1.length vc, .slice none 0 0, .map none] 64) := set_16 hrs _
    have y2 : ((V.setCell ⟨w.heap.size, 0, none⟩ (.slice va (joinL L).1.length vc)).setCell ⟨w.heap.size, 1, none⟩ (.slice (some ⟨Gf, 0, none⟩) l.length l.length)).heap[w.heap.size]? = some (.cells #[.slice va (joinL L).1.length vc, .slice (some ⟨Gf, 0, none⟩) l.length l.length, .map none] 64) := set_16 y1 _
    have y3 : U.heap[w.heap.size]? = some (.cells #[.slice va (joinL L).1.length vc, .slice (some ⟨Gf, 0, none⟩) l.length l.length, .map (some M)] 64) := by rw [hU]; exact set_16 y2 _
    have ufar : ∀ z, z ≠ w.heap.size → U.heap[z]? = V.heap[z]? := fun z hz => by rw [hU]; exact (far_16 hz).trans ((far_16 hz).trans (far_16 hz))
    have hUD : U.heap[D]? = some (.deferred (some [])) := (ufar D (by have := HS5.out; omega)).trans hK
    have hUb : Below w.heap.size w U := by
      rw [hU]
      exact (((HB5.out.trans hf.b).setCell (p := ⟨w.heap.size, 0, none⟩) (Nat.le_refl _) _).setCell (p := ⟨w.heap.size, 1, none⟩) (Nat.le_refl _) _).setCell (p := ⟨w.heap.size, 2, none⟩) (Nat.le_refl _) _
    have hDl : D < U.heap.size := (Array.getElem?_eq_some_iff.1 hUD).1
    have pfar : ∀ z, z ≠ D → z ≠ w.heap.size → (U.putObj D (.deferred none)).heap[z]? = V.heap[z]? := fun z h1 h2 => (World.putObj_heap_other h1).trans (ufar z h2)
    have HF9 : Hid (U.heap[D]? = some (.deferred (some [])) ∧ (U.putObj D (.deferred none)).heap[w.heap.size]? = some (.cells #[.slice va (joinL L).1.length vc, .slice (some ⟨Gf, 0, none⟩) l.length l.length, .map (some M)] 64) ∧ NdO (U.putObj D (.deferred none)) w.heap.size (.slice va (joinL L).1.length vc) VV (joinL L).1 ∧ (U.putObj D (.deferred none)).heap[Gf]? = some (.cells ((joinL L).2.map cI).toArray 3) ∧ w.heap.size ≤ Gf ∧ Below w.heap.size w (U.putObj D (.deferred none))) := hid13 (by
      refine ⟨hUD, (World.putObj_heap_other (by have := HS5.out; omega)).trans y3, hj.n.same12 (fun z cs T hz hT => pfar z (fun q => by rw [q, hK] at hz; cases hz) (fun q => by
        rw [q, hrs] at hz
        injection hz with hz
        injection hz with _ h3 _
        subst h3
        rcases hT with hT | hT <;> exact absurd hT (by decide))), (pfar Gf (fun q => by have h9 := hj.f; rw [q, hK] at h9; cases h9) (by have := HS5.out; omega)).trans hj.f, by have := HS5.out; omega, ?_⟩
      exact ⟨hUb.os, hUb.tape, hUb.output, by have := hUb.size; simpa [World.putObj] using this, fun k hk => (World.putObj_heap_other (by have := HS5.out; omega)).trans (hUb.block k hk)⟩)
    clear hjl hj hf hbk hrs hK hj3 y1 y2 y3 ufar hUD hUb hDl pfar
    refine wl_nil16 (P := Try.prog) (ops := #[]) ?_
    go_wp2
    rw [← hU]
    refine ⟨by simp, .inl ⟨_, _, rfl, run_takeDeferred HF9.out.1, ?_⟩⟩
    obtain ⟨-, f1, f2, f3, f4, f5⟩ := HF9.out
    have g0 := at_16 f1 0 _ rfl
    have g1 := at_16 f1 1 _ rfl
    have g2 := at_16 f1 2 _ rfl
    exact ⟨.agg #[.slice va (joinL L).1.length vc, .slice (some ⟨Gf, 0, none⟩) l.length l.length, .map (some M)], by simp [results, Try.results25, go_sem, g0, g1, g2], _, _, _, _, rfl, f2, f3, f4, f5⟩
  case stop =>
    rintro D c pre V hD hpre h hK
    exact h.elim
end Go.Proofs.Ytdpfdlkaickkiaa
