/-
  Part 20 of the proof: 2 texts, one behind the other.
-/
import Derived.Test.YtdpmhpmnkollaaaPart7
import Derived.Test.YtdpmhpmnkollaaaPart16
import Derived.Test.YtdpmhpmnkollaaaPart19
import Derived.OwnWalkIn
import Derived.Deep.AppendLies
namespace Go.Proofs.Ytdpmhpmnkollaaa
open Go.RowKit Go.Shelf
set_option linter.unusedSimpArgs false
set_option linter.unusedVariables false
attribute [local go_sem] Oper.semAt_some

theorem stopApp18 {F : Fence} {n : Nat} {P : Program} {w : World} {ops : Array Oper} {rest : List Oper} {a : Act} {Q : Exit → Act → World → Prop} {d : Option Tmp} {args : Array Operand} {ats : Array TypeId} {ty : TypeId} {pos : String} {after : Array Edge} (h : Hid (wpListIn F n P ops Q (⟨d, .call { callee := .builtin .append, args := args, argTypes := ats }, ty, pos, after, none⟩ :: rest) a w)) : wpListIn F n P ops Q (⟨d, .call { callee := .builtin .append, args := args, argTypes := ats }, ty, pos, after, none⟩ :: rest) a w := h.out
theorem wpListIn_append_lies18 {F : Fence} {k : Nat} {P : Program} (w : World) {ops : Array Oper} {rest : List Oper} {o : Oper} {a : Act} {Q : Exit → Act → World → Prop} (hgd : o.guard = none) (s x : Operand) (t : TypeId)
    (ho : o.op = .call { callee := .builtin .append, args := #[s, x], argTypes := #[t, t] })
    (base : Nat) (e : TypeId) (i : TypeInfo) (z : Value) (size bytes : Nat) (ht : P.underlying t = some (.slice e)) (hi : P.info? e = some i) (hz : i.zero = some z)
    (hsize : i.size = size) (hby : i.bytes = bytes) (hzs : z.cells.size = size) (hsz : 0 < size)
    (v : Value) (n : Nat) (xs : List Value) (hs : a.eval s = v) (hown : w.ownsRow base e size v n xs)
    (ad : Addr) (m c : Nat) (news : List Value) (hx : a.eval x = .slice (some ad) m c) (hl : news.length = m * size) (hnews : ∀ j u, news[j]? = some u → w.cell? (ad.add j) = some u) (h1 : ∀ u ∈ news, u.oneCell' = true)
    (hm : 0 < m) (h63 : n + m ≤ maxLen) (hbytes : (n + m) * bytes ≤ 140737488355328) (hbase : base ≤ w.heap.size) (H : Nat) (hH : w.heap.size = H)
    (h : ∀ g cap w', w'.ownsRow base e size (.slice (some ⟨g, 0, none⟩) (n + m) cap) (n + m) (xs ++ news) → w.grownBy w' v.ownBlock → (v.ownBlock = some g ∨ g = H) → g < w'.heap.size → wpListIn F k P ops Q rest (a.put o.dst (.slice (some ⟨g, 0, none⟩) (n + m) cap)) w') : wpListIn F k P ops Q (o :: rest) a w := by
  refine wpListIn_plain hgd fun K hK' => ?_
  obtain ⟨g, cap, w', hrun, r1, r2, r3, r4⟩ := run_append_lies (P := P) w t o.type base e i z size bytes ht hi hz hsize hby hzs hsz v n xs hown ad m c news hl hnews h1 hm h63 hbytes hbase H hH
  unfold Oper.wpIn
  refine ⟨?_, ?_⟩
  · simp [Oper.about, ho, resolve, Target.leads, Sem.run_pure]
  · rw [Oper.semAt_plain F _ _ (by rw [ho]; intro c hc'; cases hc')]
    simp [execOp, ho, resolve, invoke, builtin, hs, hx, hrun, Result.andThen]
    exact hK' _ _ (h g cap w' r1 r2 r3 r4)
def runsV (m : List (BitVec 32)) (es : List (Bool × Int)) : List Rn := (setL m 0).zipWith (fun i e => ⟨mkW 0 i, e.1, e.2⟩) es
theorem runsV_len (m : List (BitVec 32)) (es : List (Bool × Int)) (h : es.length = sumW m m.length) : (runsV m es).length = es.length := by
  unfold runsV
  rw [List.length_zipWith, setL_all]; omega
theorem zip_pre {α β γ : Type} (f : α → β → γ) (pre : List α) (x : α) (l : List α) (es : List β) (e : β) (h : pre ++ [x] <+: l) (he : es[pre.length]? = some e) : (l.zipWith f es).take (pre.length + 1) = (l.zipWith f es).take pre.length ++ [f x e] := by
  obtain ⟨t, rfl⟩ := h
  have hx : ((pre ++ [x] ++ t).zipWith f es)[pre.length]? = some (f x e) := by
    rw [List.getElem?_zipWith, he]
    simp
  rw [List.take_add_one, hx]; rfl
structure NdW (w : World) (A0 N R0 B : Nat) (cs : Array Value) (V : World) (vb : Value) (L : List Rn) : Prop where
  b : Below w.heap.size w V
  a : V.heap[A0]? = some (.cells cs 111)
  r : V.heap[A0 + 1]? = some (.cells #[.int .i64 0, .slice none 0 0] 53)
  c : V.heap[B]? = some (.cells #[vb] 51)
  o : V.ownsRow w.heap.size 50 4 vb L.length (rowN L)
  n : ∀ z, vb.ownBlock = some z → z = R0 ∨ N ≤ z
  s : N ≤ V.heap.size
theorem NdW.below {w V V' : World} {A0 N R0 B : Nat} {cs : Array Value} {vb : Value} {L : List Rn} (h : NdW w A0 N R0 B cs V vb L) (hb : Below V.heap.size V V') : NdW w A0 N R0 B cs V' vb L :=
  ⟨keepb hb h.b, (hb.block _ (lt_16 h.a)).trans h.a, (hb.block _ (lt_16 h.r)).trans h.r, (hb.block _ (lt_16 h.c)).trans h.c, own_b13 hb h.o, h.n, Nat.le_trans h.s hb.size⟩
theorem NdW.kept {w V V' : World} {A0 N R0 B : Nat} {cs : Array Value} {vb : Value} {L : List Rn} (h : NdW w A0 N R0 B cs V vb L) {row : Option Nat} (hg : V.grownBy V' row) (hN : w.heap.size ≤ N) (hr : ∀ r, row = some r → N ≤ r ∧ ∃ o : Obj, V.heap[r]? = some o ∧ o.isCells = false) : NdW w A0 N R0 B cs V' vb L :=
  ⟨h.b.grown hg (Nat.le_trans hN h.s) (fun k e => by have := (hr k e).1; omega), blk_16 hg (fun r e => (hr r e).2) h.a, blk_16 hg (fun r e => (hr r e).2) h.r, blk_16 hg (fun r e => (hr r e).2) h.c, own_16 hg (fun r e => (hr r e).2) h.o, h.n, Nat.le_trans h.s hg.size⟩
theorem newsN18 (W : World) (a b c d : Value) (t : TypeId) : ∀ j u, [a, b, c, d][j]? = some u → (W.alloc (.cells #[a, b, c, d] t)).cell? ((⟨W.heap.size, 0, none⟩ : Addr).add j) = some u := by
  intro j u h
  match j, h with
  | 0, h => simp at h; subst h; simp [go_sem, Addr.add]
  | 1, h => simp at h; subst h; simp [go_sem, Addr.add]
  | 2, h => simp at h; subst h; simp [go_sem, Addr.add]
  | 3, h => simp at h; subst h; simp [go_sem, Addr.add]
  | j + 4, h => simp at h
theorem rowN_app18 (L : List Rn) (r : Rn) : rowN (L ++ [r]) = rowN L ++ [.int .u64 (hI r.f), .int .u64 (lI r.f), .bool r.k, .int .i64 r.n] := by
  unfold rowN
  rw [List.flatMap_append]
  simp
theorem NdW.push {w V V2 W' : World} {b : Nat} {cs : Array Value} {vb : Value} {L : List Rn} {r : Rn} {g cap q : Nat} (h : NdW w b (b + 5) (b + 1 + 1) (b + 1 + 1 + 1) cs V vb L) (hql : L.length = q) (hb0 : b = w.heap.size) (hb : Below V.heap.size V V2)
    (ho : W'.ownsRow w.heap.size 50 4 (.slice (some ⟨g, 0, none⟩) (q + 1) cap) (q + 1) (rowN (L ++ [r]))) (hg : V2.grownBy W' vb.ownBlock) (hat : vb.ownBlock = some g ∨ g = V2.heap.size) :
    NdW w b (b + 5) (b + 1 + 1) (b + 1 + 1 + 1) cs (W'.setCell ⟨b + 1 + 1 + 1, 0, none⟩ (.slice (some ⟨g, 0, none⟩) (q + 1) cap)) (.slice (some ⟨g, 0, none⟩) (q + 1) cap) (L ++ [r]) ∧ KZ (fun z => z < b ∨ z = b + 1 + 1 + 1 + 1) V (W'.setCell ⟨b + 1 + 1 + 1, 0, none⟩ (.slice (some ⟨g, 0, none⟩) (q + 1) cap)) ∧ KeepsFrom (b + 5) V (W'.setCell ⟨b + 1 + 1 + 1, 0, none⟩ (.slice (some ⟨g, 0, none⟩) (q + 1) cap)) := by
  have hs := h.s
  have hbs := hb.size
  have hgs := hg.size
  have hgn : g = b + 1 + 1 ∨ b + 5 ≤ g := by
    rcases hat with q | q
    · exact h.n g q
    · omega
  have kp1 : ∀ z o, V.heap[z]? = some o → vb.ownBlock ≠ some z → W'.heap[z]? = some o := fun z o h1 h2 => by
    have hz := (Array.getElem?_eq_some_iff.1 h1).1
    exact (hg.block z (by omega) (fun q => h2 q.symm)).trans ((hb.block z hz).trans h1)
  have kp : ∀ z o, V.heap[z]? = some o → z ≠ b + 1 + 1 + 1 → vb.ownBlock ≠ some z → (W'.setCell ⟨b + 1 + 1 + 1, 0, none⟩ (.slice (some ⟨g, 0, none⟩) (q + 1) cap)).heap[z]? = some o := fun z o h1 h3 h2 => (far_16 h3).trans (kp1 z o h1 h2)
  have nn : ∀ z, z ≠ b + 1 + 1 → z < b + 5 → vb.ownBlock ≠ some z := fun z h1 h2 q => by
    rcases h.n z q with q | q <;> omega
  refine ⟨⟨?_, kp _ _ h.a (by omega) (nn _ (by omega) (by omega)), kp _ _ h.r (by omega) (nn _ (by omega) (by omega)), ?_, ?_, fun z hz => ?_, by simp; omega⟩, ⟨by simp; omega, fun z o h1 h2 => ?_⟩, ⟨by simp; omega, fun z o h0 h1 h2 => ?_⟩⟩
  · refine Below.setCell (p := ⟨b + 1 + 1 + 1, 0, none⟩) ?_ (by show w.heap.size ≤ b + 1 + 1 + 1; omega) _
    exact (keepb hb h.b).grown hg (by omega) (fun z q => (h.o.lt z q).1)
  · rw [set_16 (kp1 _ _ h.c (nn _ (by omega) (by omega)))]
    rfl
  · rw [List.length_append, List.length_singleton, hql]
    refine own_keep18 ho (fun z hz => far_16 ?_)
    have hz : g = z := by simpa [Value.ownBlock] using hz
    omega
  · have hz : g = z := by simpa [Value.ownBlock] using hz
    omega
  · exact kp z o h1 (by omega) (nn z (by omega) (by rcases h2 with q | q <;> omega) |> fun k => (by
      rcases h2 with q | q
      · exact nn z (by omega) (by omega)
      · exact nn z (by omega) (by omega)))
  · refine kp z o h1 (by omega) (fun q => ?_)
    obtain ⟨cs2, hcs2⟩ := own_typed18 h.o z q
    rw [hcs2] at h1
    cases h1
    cases h2
set_option maxRecDepth 20000 in
set_option maxHeartbeats 16000000 in
theorem vnode18 (w : World) (a t : Int) (vs ve : Value) (m : List (BitVec 32)) (es : List (Bool × Int)) (base : Nat) (hm : RwX cU w vs m) (he : w.ownsRow base 135 2 ve es.length (rowE8 es)) (hl : es.length = sumW m m.length) (hml : m.length ≤ 100000000) (hel : es.length ≤ 100000000) :
    Calls Try.prog 50 #[.agg #[.int .i64 a, .int .i64 t, vs, ve]] w fun e w' => ∃ vr, e = .returned (.agg #[.int .i64 t, vr]) ∧ w'.ownsRow w.heap.size 50 4 vr (runsV m es).length (rowN (runsV m es)) ∧ Below w.heap.size w w' := by
  obtain ⟨i0, hi, hz0, hz1, hz2⟩ := info13 Try.infoRn16
  obtain ⟨so, sc, hsv, hsc, hsr⟩ := id hm
  subst hsv
  obtain ⟨eo, ec, hev⟩ := own_form he
  subst hev
  have HM := hid13 hm
  have HE := hid13 he
  have HL : Hid (es.length = sumW m m.length ∧ m.length ≤ 100000000 ∧ es.length ≤ 100000000) := ⟨hl, hml, hel⟩
  obtain ⟨n, hn⟩ : ∃ n, n = es.length := ⟨_, rfl⟩
  obtain ⟨k, hk⟩ : ∃ k, k = m.length := ⟨_, rfl⟩
  have HNk : Hid (n = es.length ∧ k = m.length) := ⟨hn, hk⟩
  have hnb : n ≤ 100000000 := by omega
  rw [← hn, ← hk]
  clear hm he hl hml hel hsr hsc hn hk
  refine (callsIn_wide (n := 9)).1 ?_
  refine callsIn_of_wp_marks Try.func50 rfl trivial ?_ rfl
  simp only [Try.ntmps50, List.size_toArray, List.length_cons, List.length_nil, Nat.reduceAdd, Nat.reduceSub, Array.replicate_succ, Array.replicate_zero, List.push_toArray, List.append_toArray, List.nil_append, List.cons_append]
  refine wpIn_wide.2 ?_
  obtain ⟨b, hb⟩ : ∃ b, b = w.heap.size := ⟨_, rfl⟩
  have HBb : Hid (b = w.heap.size) := hb
  go_wp2_with (at_make; apply stopHere9)
  refine (show wpList _ _ _ _ _ _ from ?_)
  refine wpList_make16 _ rfl _ _ 51 rfl 50 i0 (.agg #[.int .u64 0, .int .u64 0, .bool false, .int .i64 0]) Try.underlying51 hi hz0 .i64 .i64 _ _ 0 n rfl rfl rfl rfl (Nat.zero_le _) (by rw [hz2]; omega) (by unfold maxLen; omega) ?_
  obtain ⟨cur, hcur⟩ : ∃ cur, cur = madeCells (Value.agg #[.int .u64 0, .int .u64 0, .bool false, .int .i64 0]).cells (n * i0.size) := ⟨_, rfl⟩
  have hcs : cur.size = n * 4 := by rw [hcur, size_madeCells, hz1]
  rw [← hcur]
  clear hcur
  have q1 := bl1 w (.cells #[.int .i64 a, .int .i64 t, .slice so k sc, .slice eo n ec] 111)
  have n1 := new_16 w (.cells #[.int .i64 a, .int .i64 t, .slice so k sc, .slice eo n ec] 111)
  obtain ⟨W1, hW1⟩ : ∃ W1, W1 = w.alloc (.cells #[.int .i64 a, .int .i64 t, .slice so k sc, .slice eo n ec] 111) := ⟨_, rfl⟩
  rw [← hW1] at q1 n1 ⊢
  have s1 : W1.heap.size = b + 1 := by rw [hW1, World.size_alloc, hb]
  have q2 := bl1 W1 (.cells #[.int .i64 0, .slice none 0 0] 53)
  have n2 := new_16 W1 (.cells #[.int .i64 0, .slice none 0 0] 53)
  obtain ⟨W2, hW2⟩ : ∃ W2, W2 = W1.alloc (.cells #[.int .i64 0, .slice none 0 0] 53) := ⟨_, rfl⟩
  rw [← hW2] at q2 n2 ⊢
  have s2 : W2.heap.size = b + 1 + 1 := by rw [hW2, World.size_alloc, s1]
  have q3 := bl1 W2 (.cells cur 50)
  have n3 := World.ownsRow_made (base := b) (e := 50) (size := 4) W2 cur n (by omega) (by unfold maxLen; omega) hcs
  obtain ⟨W3, hW3⟩ : ∃ W3, W3 = W2.alloc (.cells cur 50) := ⟨_, rfl⟩
  rw [← hW3] at q3 n3 ⊢
  have s3 : W3.heap.size = b + 1 + 1 + 1 := by rw [hW3, World.size_alloc, s2]
  have q4 := bl1 W3 (.cells #[.slice (some ⟨W2.heap.size, 0, none⟩) 0 n] 51)
  have n4 := new_16 W3 (.cells #[.slice (some ⟨W2.heap.size, 0, none⟩) 0 n] 51)
  have q14 : Below W1.heap.size W1 (W3.alloc (.cells #[.slice (some ⟨W2.heap.size, 0, none⟩) 0 n] 51)) := keepb q4 (keepb q3 q2)
  have a2 := keepc q14 (at_16 n1 2 _ rfl)
  have KP := fun W => vplaces18 so k sc W
  have HQ : Hid (Below w.heap.size w (W3.alloc (.cells #[.slice (some ⟨W2.heap.size, 0, none⟩) 0 n] 51)) ∧ (W3.alloc (.cells #[.slice (some ⟨W2.heap.size, 0, none⟩) 0 n] 51)).heap[b]? = some (.cells #[.int .i64 a, .int .i64 t, .slice so k sc, .slice eo n ec] 111) ∧ (W3.alloc (.cells #[.slice (some ⟨W2.heap.size, 0, none⟩) 0 n] 51)).heap[b + 1]? = some (.cells #[.int .i64 0, .slice none 0 0] 53) ∧ (W3.alloc (.cells #[.slice (some ⟨W2.heap.size, 0, none⟩) 0 n] 51)).heap[b + 1 + 1 + 1]? = some (.cells #[.slice (some ⟨b + 1 + 1, 0, none⟩) 0 n] 51) ∧ (W3.alloc (.cells #[.slice (some ⟨W2.heap.size, 0, none⟩) 0 n] 51)).ownsRow b 50 4 (.slice (some ⟨b + 1 + 1, 0, none⟩) 0 n) 0 [] ∧ (W3.alloc (.cells #[.slice (some ⟨W2.heap.size, 0, none⟩) 0 n] 51)).heap.size = b + 1 + 1 + 1 + 1) := hid13 (by
    refine ⟨keepb q14 q1, ?_, ?_, ?_, ?_, ?_⟩
    · rw [hb]; exact (q14.block _ (lt_16 n1)).trans n1
    · rw [← s1]; exact ((keepb q4 q3).block _ (lt_16 n2)).trans n2
    · rw [← s3, ← s2]; exact n4
    · rw [← s2]; exact own_b13 q4 n3
    · rw [World.size_alloc, s3])
  clear q1 n1 q2 n2 q3 n3 q4 n4 q14 hcs
  rw [← hb] at a2
  rw [s2] at a2 HQ ⊢
  rw [← hb]
  clear s1 s2 hW1 hW2 hW3 hb
  go_wp2_with fail
  refine (KP _).mono ?_
  rintro e W6 ⟨rfl, hW6⟩
  have q6 := bl1 (W3.alloc (.cells #[.slice (some ⟨b + 1 + 1, 0, none⟩) 0 n] 51)) (.cells #[.slice so k sc] 65)
  have n6 := new_16 (W3.alloc (.cells #[.slice (some ⟨b + 1 + 1, 0, none⟩) 0 n] 51)) (.cells #[.slice so k sc] 65)
  have z6 : ((W3.alloc (.cells #[.slice (some ⟨b + 1 + 1, 0, none⟩) 0 n] 51)).alloc (.cells #[.slice so k sc] 65)).heap.size = b + 5 := by rw [World.size_alloc, HQ.out.2.2.2.2.2]
  rw [← hW6] at q6 n6 z6
  rw [HQ.out.2.2.2.2.2] at n6 ⊢
  have HS6 : Hid (W6.heap.size = b + 5) := z6
  obtain ⟨cs, hcs⟩ : ∃ cs, cs = #[Value.int .i64 a, .int .i64 t, .slice so k sc, .slice eo n ec] := ⟨_, rfl⟩
  have HCs := hid13 hcs
  have HNd : Hid (NdW w b (b + 5) (b + 1 + 1) (b + 1 + 1 + 1) cs W6 (.slice (some ⟨b + 1 + 1, 0, none⟩) 0 n) []) := by
    obtain ⟨h1, h2, h3, h4, h5, h6⟩ := HQ.out
    rw [← hcs] at h2
    refine ⟨keepb q6 h1, (q6.block _ (lt_16 h2)).trans h2, (q6.block _ (lt_16 h3)).trans h3, (q6.block _ (lt_16 h4)).trans h4, ?_, ?_, by rw [HS6.out]; exact Nat.le_refl _⟩
    · rw [← HBb.out]; exact own_b13 q6 h5
    · intro z hz; injection hz with hz; exact .inl hz.symm
  have HPl : Hid (PlM (fun z => z < b ∨ z = b + 1 + 1 + 1 + 1) (b + 1 + 1 + 1 + 1) so sc m W6) := by
    refine ⟨by rw [← HNk.out.2]; exact at_16 n6 0 _ rfl, .inr rfl, HM.out.below (keepb q6 HQ.out.1), fun hne ad e => ?_⟩
    obtain ⟨ao', c', e', -, hr⟩ := HM.out
    injection e' with e1 e2 e3
    subst e1
    rcases hr with hr | ⟨b2, off, e2, hr⟩
    · exact absurd hr hne
    · obtain ⟨x, t2, hx⟩ := List.exists_cons_of_ne_nil hne
      have hc := hr 0 x (by rw [hx]; rfl)
      rw [e] at e2
      injection e2 with e2
      rw [e2]
      have := cell_in hc
      rw [← HBb.out] at this
      exact .inl this
  clear q6 n6 z6 hW6 KP a2 s3 HQ hcs
  go_wp2_with fail
  refine (wpIn_wide (n := 9)).1 ?_
  refine rangeXA 9 (by decide) (gf := 89) (lb := #[.pointer (some ⟨b + 1 + 1 + 1 + 1, 0, none⟩)]) rfl (enters_of Try.func89 (by kernel_rfl) rfl)
    (places1_any (9 - 1) (fun z => z < b ∨ z = b + 1 + 1 + 1 + 1) (b + 1 + 1 + 1 + 1) so sc m HL.out.2.1 0 W6 HPl.out) (Nat.zero_le _) (fun A => KZ.refl _ _) (fun h k => h.trans k) (fun V o o' h1 h2 => kz_put (by have := HS6.out; rintro (q | q) <;> omega) V o o' h1 h2) (Below.refl _ _) (fun _ => rfl)
    (fun pre V => ∃ vb, NdW w b (b + 5) (b + 1 + 1) (b + 1 + 1 + 1) cs V vb ((runsV m es).take pre.length))
    (fun c pre V => False)
    (fun s X Y row hs hg hr => by obtain ⟨vb, h⟩ := hs; exact ⟨vb, h.kept hg (by rw [← HBb.out]; omega) (fun r e => ⟨by rw [← HS6.out]; exact (hr r e).1, (hr r e).2⟩)⟩)
    (fun c s X Y row hs hg hr => hs)
    ⟨_, HNd.out⟩
    ?AX ?assign ?body ?done ?stop
  case assign =>
    intro lo y V K hK
    unfold encP
    simp only [List.zip_toArray, List.zip_cons_cons, List.zip_nil_left, List.zip_nil_right, List.foldl_toArray, List.foldl_cons, List.foldl_nil, List.setIfInBounds_toArray, List.set_cons_zero, List.set_cons_succ, Array.zip]
    have HKK := hid13 hK
    clear hK
    gi_wp2
    exact HKK.out
  case body =>
    rintro lo pre x V hlo - ⟨vb, hN⟩ hsp
    have hx0 : 0 ≤ x ∧ x < 32 * m.length := setL_lt m 0 x (hsp.mem (by simp))
    have hpl : pre.length < es.length := by
      have h1 := hsp.length_le
      rw [setL_all, ← HL.out.1] at h1
      simp at h1
      omega
    obtain ⟨e, he⟩ : ∃ e, es[pre.length]? = some e := ⟨_, List.getElem?_eq_getElem hpl⟩
    have HT := hid13 (zip_pre (fun (i : Int) (e : Bool × Int) => (⟨mkW 0 i, e.1, e.2⟩ : Rn)) pre x (setL m 0) es e hsp he)
    have hLl : ((runsV m es).take pre.length).length = pre.length := by rw [List.length_take, runsV_len m es HL.out.1]; omega
    have HN := hid13 hN
    obtain ⟨p, hp⟩ : ∃ p, p = pre.length := ⟨_, rfl⟩
    rw [← hp] at HT hpl he hLl HN
    obtain ⟨R, hR⟩ : ∃ R, R = (runsV m es).take p := ⟨_, rfl⟩
    rw [← hR] at HN hLl
    have HRr : Hid (((runsV m es).take (p + 1)) = R ++ [⟨mkW 0 x, e.1, e.2⟩]) := hid13 (by rw [hR]; exact HT.out)
    obtain ⟨eg, ec', hee, -⟩ := own_some18 HE.out (by omega)
    injection hee with he1 he2 he3
    subst he1 he3
    obtain ⟨r1, r2⟩ := rowE8_get _ _ _ he
    have heo := own_b13 HN.out.b HE.out
    have k1 := (own_at18 heo r1).1
    have k2 := (own_at18 heo r2).1
    have ha := HN.out.a
    rw [HCs.out] at ha
    have a3 := at_16 ha 3 _ rfl
    have c0 := at_16 HN.out.c 0 _ rfl
    obtain ⟨xo, xc, hv⟩ := own_form HN.out.o
    rw [hLl] at hv
    subst hv
    obtain ⟨eb, en⟩ := e
    obtain ⟨X, hX⟩ : ∃ X : Nat, x = (X : Int) := ⟨x.toNat, by omega⟩
    subst hX
    have HX : Hid ((X : Int) < 32 * m.length) := hx0.2
    have hpn : (p : Int) < (n : Int) := by rw [HNk.out.1]; omega
    dsimp only at k1 k2 HRr
    have wx : IntKind.u64.wrap (X : Int) = (X : Int) := by simp [IntKind.wrap, IntKind.bits, IntKind.signed]; have := HL.out; omega
    have HPp : Hid (p = pre.length) := hp
    have d0 := keepc (bl1 V (.cells #[.bool eb, .int .i64 en] 135)) c0
    clear hx0 hpl he heo r1 r2 ha hN hsp HT hR hp
    gi_wp2_with (with_reducible apply stopApp18)
    clear k1 k2 a3 c0 d0
    have b1 := bl1 V (.cells #[.bool eb, .int .i64 en] 135)
    obtain ⟨V1, hV1⟩ : ∃ V1, V1 = V.alloc (.cells #[.bool eb, .int .i64 en] 135) := ⟨_, rfl⟩
    rw [← hV1] at b1 ⊢
    have b2 := bl1 V1 (.cells #[.int .u64 0, .int .u64 (X : Int), .bool eb, .int .i64 en] 50)
    have HN2 := hid13 (HN.out.below (keepb b2 b1))
    have sz1 : V1.heap.size = V.heap.size + 1 := by rw [hV1, World.size_alloc]
    have ho2 := HN2.out.o
    rw [hLl] at ho2
    have hpb : p ≤ 100000000 := by have := HL.out; have := HNk.out; omega
    refine hid13 (wpListIn_append_lies18 _ rfl _ _ 51 rfl w.heap.size 50 i0 (.agg #[.int .u64 0, .int .u64 0, .bool false, .int .i64 0]) 4 32 Try.underlying51 hi hz0 hz1 hz2 rfl (by decide) (.slice xo p xc) p (rowN R) rfl ho2 ⟨V.heap.size + 1, 0, none⟩ 1 1 [.int .u64 0, .int .u64 (X : Int), .bool eb, .int .i64 en] rfl rfl (by have h9 := newsN18 V1 (.int .u64 0) (.int .u64 (X : Int)) (.bool eb) (.int .i64 en) 50; rwa [sz1] at h9) (by intro u hu; simp at hu; rcases hu with rfl | rfl | rfl | rfl <;> rfl) (by decide) (by unfold maxLen; omega) (by omega) (HN2.out.b.size) _ rfl ?_)
    intro g cap w' h1 h2 h3 h4
    have hrw : rowN R ++ [Value.int .u64 0, .int .u64 (X : Int), .bool eb, .int .i64 en] = rowN (R ++ [⟨mkW 0 (X : Int), eb, en⟩]) := by
      rw [rowN_app18, hI_mk 0 (X : Int) (by omega) (by omega), lI_mk 0 (X : Int) (by omega) (by have := HX.out; have := HL.out; omega)]
    rw [hrw] at h1
    have hpush := HN.out.push hLl HBb.out (keepb b2 b1) h1 h2 h3
    have HC : Hid (w'.cell? ⟨b + 1 + 1 + 1, 0, none⟩ = some (.slice xo p xc) ∧ w'.frozen? ⟨b + 1 + 1 + 1, 0, none⟩ = false) := hid13 (by
      have hc := HN2.out.c
      have e := h2.block (b + 1 + 1 + 1) (lt_16 hc) (fun q => by
        have := HN.out.n _ q.symm
        omega)
      rw [hc] at e
      exact ⟨at_16 e 0 _ rfl, fr_16 e⟩)
    obtain ⟨y0, yf⟩ := HC.out
    have HF := hid13 hpush
    clear hpush h1 h2 h3 h4 HC b1 b2 HN2 sz1 hpb ho2 hrw hV1 HN
    gi_wp2
    refine ⟨by rw [HS6.out]; exact HF.out.2.2, HF.out.2.1, .slice (some ⟨g, 0, none⟩) (p + 1) cap, ?_⟩
    have := HF.out.1
    rw [← HRr.out] at this
    rw [List.length_append, List.length_singleton, ← HPp.out]
    exact this
  case done =>
    rintro D ys V hD rfl ⟨vb, hN⟩ hK
    have hL : (runsV m es).take (setL m 0).length = runsV m es := List.take_of_length_le (by rw [runsV_len m es HL.out.1, HL.out.1, setL_all]; exact Nat.le_refl _)
    rw [hL] at hN
    have HN := hid13 hN
    obtain ⟨xo, xc, hv⟩ := own_form hN.o
    obtain ⟨q, hq⟩ : ∃ q, q = (runsV m es).length := ⟨_, rfl⟩
    rw [← hq] at hv
    subst hv
    have HQq := hid13 hq
    have ha := hN.a
    rw [HCs.out] at ha
    have a1 := at_16 ha 1 _ rfl
    have c0 := at_16 hN.c 0 _ rfl
    have r0 := at_16 hN.r 0 _ rfl
    have r1 := at_16 hN.r 1 _ rfl
    have f0 := fr_16 (j := 0) hN.r
    have f1 := fr_16 (j := 1) hN.r
    have HK := hid13 hK
    have HD : Hid (b + 5 ≤ D) := by have := HS6.out; show _ ≤ _; omega
    clear hL hN ha hK hD hq
    refine wl_nil14 (P := Try.prog) (ops := #[]) ?_
    go_wp2
    clear a1 c0 r0 r1 f0 f1
    have h2 : ((V.setCell ⟨b + 1, 0, none⟩ (.int .i64 t)).setCell ⟨b + 1, 1, none⟩ (.slice xo q xc)).heap[b + 1]? = some (.cells #[.int .i64 t, .slice xo q xc] 53) := by
      rw [set_16 (set_16 HN.out.r _)]; rfl
    have hD2 : ((V.setCell ⟨b + 1, 0, none⟩ (.int .i64 t)).setCell ⟨b + 1, 1, none⟩ (.slice xo q xc)).heap[D]? = some (.deferred (some [])) := (far_16 (by have := HD.out; omega)).trans ((far_16 (by have := HD.out; omega)).trans HK.out)
    have ho2 : ((V.setCell ⟨b + 1, 0, none⟩ (.int .i64 t)).setCell ⟨b + 1, 1, none⟩ (.slice xo q xc)).ownsRow w.heap.size 50 4 (.slice xo q xc) (runsV m es).length (rowN (runsV m es)) := own_keep18 HN.out.o (fun g hg => by
      have := HN.out.n g hg
      exact (far_16 (by omega)).trans (far_16 (by omega)))
    have hb2 : Below w.heap.size w ((V.setCell ⟨b + 1, 0, none⟩ (.int .i64 t)).setCell ⟨b + 1, 1, none⟩ (.slice xo q xc)) := (HN.out.b.setCell (p := ⟨b + 1, 0, none⟩) (by have := HBb.out; show _ ≤ b + 1; omega) _).setCell (p := ⟨b + 1, 1, none⟩) (by have := HBb.out; show _ ≤ b + 1; omega) _
    revert h2 hD2 ho2 hb2
    generalize (V.setCell ⟨b + 1, 0, none⟩ (.int .i64 t)).setCell ⟨b + 1, 1, none⟩ (.slice xo q xc) = V2
    intro h2 hD2 ho2 hb2
    refine ⟨by simp, .inl ⟨_, _, rfl, run_takeDeferred hD2, ?_⟩⟩
    have h3 : (V2.putObj D (.deferred none)).heap[b + 1]? = some (.cells #[.int .i64 t, .slice xo q xc] 53) := (World.putObj_heap_other (by have := HD.out; omega)).trans h2
    have c0 := at_16 h3 0 _ rfl
    have c1 := at_16 h3 1 _ rfl
    refine ⟨.agg #[.int .i64 t, .slice xo q xc], by simp [results, Try.results50, go_sem, c0, c1], .slice xo q xc, rfl, ?_, ?_⟩
    · exact own_16 (grownBy_putObj' _ D (.deferred none)) (fun r e => by cases e; exact ⟨_, hD2, rfl⟩) ho2
    · exact hb2.grown (grownBy_putObj' _ D (.deferred none)) hb2.size (fun r e => by cases e; have := HD.out; have := HBb.out; omega)
  case stop =>
    rintro D c pre V hD hpre h hK
    exact h.elim
end Go.Proofs.Ytdpmhpmnkollaaa
namespace Go.Proofs.Ytdpmhpmnkollaaa
open Go.RowKit Go.Shelf
set_option linter.unusedSimpArgs false
set_option linter.unusedVariables false
attribute [local go_sem] Oper.semAt_some

structure NdO (W : World) (base : Nat) (v : Value) (V : List Value) (L : List Nde) : Prop where
  o : W.ownsRow base 53 2 v L.length (rowD L V)
  l : V.length = L.length
  r : ∀ (j : Nat) (d : Nde) (u : Value), L[j]? = some d → V[j]? = some u → W.ownsRow base 50 4 u d.r.length (rowN d.r)
  d : ∀ (j k : Nat) (x y : Value) (z : Nat), V[j]? = some x → V[k]? = some y → x.ownBlock = some z → y.ownBlock = some z → j = k
theorem NdO.below {W W' : World} {base : Nat} {v : Value} {V : List Value} {L : List Nde} (h : NdO W base v V L) (hb : Below W.heap.size W W') : NdO W' base v V L := ⟨own_b13 hb h.o, h.l, fun j d u h1 h2 => own_b13 hb (h.r j d u h1 h2), h.d⟩
theorem NdO.rwd {W : World} {base : Nat} {v : Value} {V : List Value} {L : List Nde} (h : NdO W base v V L) : RwD W v L := rwd_of h.o h.l (fun j d vr h1 h2 => own_rwn16 (h.r j d vr h1 h2))
theorem NdO.nil {W : World} {base : Nat} {v : Value} (h : W.ownsRow base 53 2 v 0 []) : NdO W base v [] [] := ⟨h, rfl, fun j d u h1 h2 => (by simp at h1), fun j k x y z h1 h2 => (by simp at h1)⟩
theorem NdO.push {W W1 W2 W3 W4 : World} {base : Nat} {v v' u : Value} {V : List Value} {L : List Nde} {d : Nde} (h : NdO W base v V L) (hbs : base ≤ W.heap.size) (h1 : Below W.heap.size W W1) (hr : W2.ownsRow W1.heap.size 50 4 u d.r.length (rowN d.r)) (h2 : Below W1.heap.size W1 W2) (h3 : Below W2.heap.size W2 W3) (hg : W3.grownBy W4 v.ownBlock)
    (ho : W4.ownsRow base 53 2 v' (L.length + 1) (rowD L V ++ [.int .i64 d.b, u])) : NdO W4 base v' (V ++ [u]) (L ++ [d]) := by
  have hb3 : Below W.heap.size W W3 := keepb h3 (keepb h2 h1)
  have s1 := h1.size
  have keep : ∀ {b0 n : Nat} {x : Value} {xs : List Value}, W3.ownsRow b0 50 4 x n xs → W4.ownsRow b0 50 4 x n xs := fun hx => own_keep18 hx (fun g hg2 => by
    obtain ⟨cs, hcs⟩ := own_typed18 hx g hg2
    refine hg.block g (lt_16 hcs) (fun q => ?_)
    exact own_not18 (own_b13 hb3 h.o) hcs (by decide) q.symm)
  refine ⟨?_, by rw [List.length_append, List.length_append, h.l]; rfl, fun j e x q1 q2 => ?_, fun j k x y z q1 q2 q3 q4 => ?_⟩
  · rw [rowD_app L V d u h.l.symm, List.length_append, List.length_singleton]
    exact ho
  · by_cases hj : j < L.length
    · rw [List.getElem?_append_left hj] at q1
      rw [List.getElem?_append_left (by rw [h.l]; exact hj)] at q2
      exact keep (own_b13 hb3 (h.r j e x q1 q2))
    · have hj1 := (List.getElem?_eq_some_iff.mp q1).1
      rw [List.length_append, List.length_singleton] at hj1
      have hj2 : j = L.length := by omega
      subst hj2
      rw [List.getElem?_append_right (Nat.le_refl _), Nat.sub_self] at q1
      rw [List.getElem?_append_right (by rw [h.l]; exact Nat.le_refl _), h.l, Nat.sub_self] at q2
      simp at q1 q2
      subst q1 q2
      exact own_base16 (keep (own_b13 h3 hr)) (by omega)
  · have old : ∀ (i : Nat) (x : Value), V[i]? = some x → x.ownBlock = some z → z < W.heap.size := fun i x hi hz => by
      have hil : i < L.length := by rw [← h.l]; exact (List.getElem?_eq_some_iff.mp hi).1
      exact ((h.r i L[i] x (List.getElem?_eq_getElem hil) hi).lt z hz).2
    have new : u.ownBlock = some z → W.heap.size ≤ z := fun hz => by have := (hr.lt z hz).1; omega
    have lst : ∀ (i : Nat) (x : Value), (V ++ [u])[i]? = some x → (i < V.length ∧ V[i]? = some x) ∨ (i = V.length ∧ u = x) := fun i x hi => by
      by_cases hl : i < V.length
      · rw [List.getElem?_append_left hl] at hi
        exact .inl ⟨hl, hi⟩
      · have hi1 := (List.getElem?_eq_some_iff.mp hi).1
        rw [List.length_append, List.length_singleton] at hi1
        have hi2 : i = V.length := by omega
        subst hi2
        rw [List.getElem?_append_right (Nat.le_refl _), Nat.sub_self] at hi
        simp at hi
        exact .inr ⟨rfl, hi⟩
    rcases lst j x q1 with ⟨a1, a2⟩ | ⟨a1, a2⟩ <;> rcases lst k y q2 with ⟨b1, b2⟩ | ⟨b1, b2⟩
    · exact h.d j k x y z a2 b2 q3 q4
    · subst b2
      have := old j x a2 q3
      have := new q4
      omega
    · subst a2
      have := old k y b2 q4
      have := new q3
      omega
    · omega
def ndsL (P : List PB) : List Nde := P.map fun b => ⟨b.t, runsV b.m b.es⟩
theorem ndsL_take (P : List PB) (k : Nat) (b : PB) (h : P[k]? = some b) : (ndsL P).take (k + 1) = (ndsL P).take k ++ [⟨b.t, runsV b.m b.es⟩] := by
  unfold ndsL
  rw [List.take_add_one, List.getElem?_map, h]; rfl
theorem newsD18 (w : World) (x y : Value) (T : TypeId) (B : Nat) (hB : B = w.heap.size) : ∀ j u, [x, y][j]? = some u → (w.alloc (.cells #[x, y] T)).cell? ((⟨B, 0, none⟩ : Addr).add j) = some u := by
  subst hB
  intro j u h
  match j, h with
  | 0, h => simp at h; subst h; simp [go_sem, Addr.add]
  | 1, h => simp at h; subst h; simp [go_sem, Addr.add]
  | j + 2, h => simp at h
set_option maxRecDepth 20000 in
set_option maxHeartbeats 16000000 in
theorem nodes18 (w : World) (Q base : Nat) (vb : Value) (dp an : Int) (L : List Bv) (P : List PB) (hq : w.heap[Q]? = some (.cells #[vb, .int .i64 dp, .int .i64 an] 81)) (hB : BsV w base vb L P) (h0 : 0 < P.length) (hl : P.length ≤ 100000000) (hb : ∀ b ∈ P, b.es.length = sumW b.m b.m.length ∧ b.m.length ≤ 100000000 ∧ b.es.length ≤ 100000000) :
    Calls Try.prog 32 #[.pointer (some ⟨Q, 0, none⟩)] w fun e w' => ∃ v V, e = .returned v ∧ NdO w' w.heap.size v V (ndsL P) ∧ Below w.heap.size w w' := by
  obtain ⟨i0, hi, hz0, hz1, hz2⟩ := info13 Try.infoD16
  obtain ⟨g, c, hvb, -⟩ := own_some18 hB.o (by rw [hB.l]; exact h0)
  subst hvb
  obtain ⟨n, hn⟩ : ∃ n, n = L.length := ⟨_, rfl⟩
  have HBs := hid13 hB
  have HL : Hid (n = P.length ∧ n = L.length ∧ P.length ≤ 100000000) := ⟨by rw [hn, hB.l], hn, hl⟩
  have HP := hid13 hb
  have c0 := at_16 hq 0 _ rfl
  rw [← hn] at c0
  have hn0 : ¬ (n : Int) = 0 := by have := HL.out; omega
  have hnb : n ≤ 100000000 := by have := HL.out; omega
  rw [hn] at c0
  have c0' : w.cell? ⟨Q, 0, none⟩ = some (.slice (some ⟨g, 0, none⟩) n c) := by rw [hn]; exact c0
  have HC0 := hid13 c0'
  clear hB h0 hl hb hq c0 hn
  go_enter Try.func32, Try.ntmps32
  go_wp2_with (at_make; apply stopHere9)
  refine (show wpList _ _ _ _ _ _ from ?_)
  refine wpList_make16 _ rfl _ _ 22 rfl 53 i0 (.agg #[.int .i64 0, .slice none 0 0]) Try.underlying22 hi hz0 .i64 .i64 _ _ 0 n rfl rfl rfl rfl (Nat.zero_le _) (by rw [hz2]; omega) (by unfold maxLen; omega) ?_
  obtain ⟨cur, hcur⟩ : ∃ cur, cur = madeCells (Value.agg #[.int .i64 0, .slice none 0 0]).cells (n * i0.size) := ⟨_, rfl⟩
  have hcs : cur.size = n * 2 := by rw [hcur, size_madeCells, hz1]
  rw [← hcur]
  clear hcur
  have q1 := bl1 w (.cells cur 53)
  have n1 := World.ownsRow_made (base := w.heap.size) (e := 53) (size := 2) w cur n (Nat.le_refl _) (by unfold maxLen; omega) hcs
  have c1 := keepc q1 c0'
  have HN0 : Hid (NdO (w.alloc (.cells cur 53)) w.heap.size (.slice (some ⟨w.heap.size, 0, none⟩) 0 n) [] ((ndsL P).take 0)) := NdO.nil n1
  have HB0 := hid13 q1
  clear q1 n1 hcs c0'
  go_wp2_with fail
  revert HN0 HB0
  generalize w.alloc (.cells cur 53) = W0
  intro HN0 HB0
  clear c1
  go_loopg [3, 31] n (fun gk lv iv wr => ∃ (k : Nat) (V : List Value), k + gk = n ∧ iv = .int .i64 (k : Int) ∧ Hid (NdO wr w.heap.size lv V ((ndsL P).take k)) ∧ Hid (Below w.heap.size w wr))
  case atStart => exact ⟨0, [], by omega, rfl, HN0, HB0⟩
  case round =>
    clear HN0 HB0
    obtain ⟨k, V, hk, rfl, HN, HB⟩ := hrel
    by_cases hlt : (k : Int) < (n : Int)
    · have hks : k < P.length := by have := HL.out; omega
      obtain ⟨b, hb⟩ : ∃ b, P[k]? = some b := ⟨_, List.getElem?_eq_getElem hks⟩
      have hbb := HP.out b (List.mem_of_getElem? hb)
      obtain ⟨x, hx, hxa, hxt, hxm, hxe⟩ := HBs.out.get hb
      obtain ⟨r0, r1, r2, r3⟩ := rowB8_get L k x hx
      have k0 := keepc HB.out (own_at18 HBs.out.o r0).1
      have k1 := keepc HB.out (own_at18 HBs.out.o r1).1
      have k2 := keepc HB.out (own_at18 HBs.out.o r2).1
      have k3 := keepc HB.out (own_at18 HBs.out.o r3).1
      obtain ⟨so, sc, hso⟩ := own_form hxm
      obtain ⟨eo, ec, heo⟩ := own_form hxe
      rw [hso] at k2
      rw [heo] at k3
      have q1 := bl1 wr (.cells #[.int .i64 x.a, .int .i64 x.t, .slice so b.m.length sc, .slice eo b.es.length ec] 111)
      obtain ⟨W1, hW1⟩ : ∃ W1, W1 = wr.alloc (.cells #[.int .i64 x.a, .int .i64 x.t, .slice so b.m.length sc, .slice eo b.es.length ec] 111) := ⟨_, rfl⟩
      have KN := vnode18 W1 x.a x.t (.slice so b.m.length sc) (.slice eo b.es.length ec) b.m b.es base (by have h9 := own_rwx (own_b13 (keepb q1 HB.out |> fun z => (by rw [hW1]; exact z)) hxm : W1.ownsRow base 96 1 x.vs b.m.length (b.m.map cU)); rw [hso] at h9; exact h9) (by have h9 : W1.ownsRow base 135 2 x.ve b.es.length (rowE8 b.es) := own_b13 (by rw [hW1]; exact keepb q1 HB.out) hxe; rw [heo] at h9; exact h9) hbb.1 hbb.2.1 hbb.2.2
      rw [hxt] at k1 KN hW1
      rw [hxt] at q1
      have HT := hid13 (ndsL_take P k b hb)
      have HRl : Hid ((runsV b.m b.es).length ≤ 100000000) := hid13 (by rw [runsV_len _ _ hbb.1]; exact hbb.2.2)
      have mk : IntKind.i64.wrap ((k : Int) + 1) = ((k + 1 : Nat) : Int) := by rw [IntKind.wrap_i64]; omega
      have HK : Hid (k + gk = n ∧ k < n) := ⟨hk, by omega⟩
      have HLl : Hid (((ndsL P).take k).length = k) := hid13 (by rw [List.length_take]; unfold ndsL; rw [List.length_map]; omega)
      have HQ1 : Hid (Below wr.heap.size wr W1) := hid13 (by rw [hW1]; exact q1)
      obtain ⟨lo, lc, hlv⟩ := own_form HN.out.o
      rw [HLl.out] at hlv
      subst hlv
      generalize b.m.length = bm at *
      generalize b.es.length = bn at *
      generalize hbt : b.t = bt at *
      generalize x.a = xa at *
      clear hks hb hbb hx hxa hxt hxm hxe r0 r1 r2 r3 hso heo q1 hk
      go_wp2_with fail
      rw [← hW1]
      refine KN.mono ?_
      rintro e W2 ⟨vr, rfl, hr, hb2⟩
      have HR := hid13 hr
      have HB2 := hid13 hb2
      clear k0 k1 k2 k3 KN hW1 hb2
      obtain ⟨ro, rc, hvr⟩ := own_form hr
      generalize hrl : (runsV b.m b.es).length = rl at *
      subst hvr
      clear hr
      go_wp2_with (at_builtin; apply stopHere9)
      refine (show wpList _ _ _ _ _ _ from ?_)
      have b3 := bl1 W2 (.cells #[.int .i64 bt, .slice ro rl rc] 53)
      have hb23 : Below wr.heap.size wr (W2.alloc (.cells #[.int .i64 bt, .slice ro rl rc] 53)) := keepb b3 (keepb HB2.out HQ1.out)
      have ho := own_b13 hb23 HN.out.o
      rw [HLl.out] at ho
      refine wpList_append_lies _ rfl _ _ 22 rfl w.heap.size 53 i0 (.agg #[.int .i64 0, .slice none 0 0]) 2 32 Try.underlying22 hi hz0 hz1 hz2 rfl (by decide) _ _ _ rfl ho ⟨W2.heap.size, 0, none⟩ 1 1 [.int .i64 bt, .slice ro rl rc] rfl rfl (newsD18 W2 _ _ _ _ rfl) (two_one16 _ _ _ _) (by decide) (by unfold maxLen; omega) (by omega) (by have := (keepb hb23 HB.out).size; omega) _ rfl ?_
      intro g9 cap9 w9 h1 h2 h3 h4
      have hrr := HR.out
      have HN9 := hid13 (HN.out.push (u := .slice ro rl rc) (d := ⟨bt, runsV b.m b.es⟩) HB.out.size HQ1.out (by dsimp only; rw [hrl]; exact hrr) HB2.out b3 h2 (by rw [HLl.out]; exact h1))
      rw [← HT.out] at HN9
      have HB9 := hid13 ((keepb hb23 HB.out).grown h2 (keepb hb23 HB.out).size (fun z q => (ho.lt z q).1))
      clear h1 h2 h3 h4 hrr ho hb23 b3 HR HN
      go_wp2
      go_roundg (gk - 1)
      case measure => have := HK.out; omega
      case rel => exact ⟨k + 1, _, by have := HK.out; omega, rfl, HN9, HB9⟩
    · have hke : k = n := by omega
      subst hke
      have HF : Hid (NdO wr w.heap.size u3 V (ndsL P)) := hid13 (by
        have := HN.out
        rw [List.take_of_length_le (by unfold ndsL; rw [List.length_map, HL.out.1]; exact Nat.le_refl _)] at this
        exact this)
      clear HN
      go_wp2
      exact bodyPost_ret (v := u3) (by simp [results, Try.results32, go_sem]) rfl ⟨u3, rfl, ⟨V, HF.out⟩, HB.out⟩
end Go.Proofs.Ytdpmhpmnkollaaa
