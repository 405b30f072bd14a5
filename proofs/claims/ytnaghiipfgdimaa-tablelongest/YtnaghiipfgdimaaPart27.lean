/-
  Part 27 of the proof: 5 texts, one behind the other.
-/
import Derived.Test.YtnaghiipfgdimaaPart25
import Derived.Test.YtnaghiipfgdimaaPart17
import Derived.Test.YtnaghiipfgdimaaPart26
import Derived.OwnWalkIn
import Derived.Deep.AppendLies
import Derived.Test.YtnaghiipfgdimaaPart1
import Derived.Test.YtnaghiipfgdimaaPart6
import Derived.Test.YtnaghiipfgdimaaPart11
/-
  What is gathered of a table upwards: AppendSeq, Collect, and Over.
-/
namespace Go.Proofs.Ytnaghiipfgdimaa
open Go.RowKit Go.Shelf
set_option linter.unusedSimpArgs false
set_option linter.unusedVariables false
attribute [local go_sem] Oper.semAt_some

theorem stopApp {F : Fence} {n : Nat} {P : Program} {w : World} {ops : Array Oper} {rest : List Oper} {a : Act} {Q : Exit → Act → World → Prop} {d : Option Tmp} {args : Array Operand} {ats : Array TypeId} {ty : TypeId} {pos : String} {after : Array Edge} (h : Hid (wpListIn F n P ops Q (⟨d, .call { callee := .builtin .append, args := args, argTypes := ats }, ty, pos, after, none⟩ :: rest) a w)) : wpListIn F n P ops Q (⟨d, .call { callee := .builtin .append, args := args, argTypes := ats }, ty, pos, after, none⟩ :: rest) a w := h.out
theorem wpListIn_append_lies {F : Fence} {k : Nat} {P : Program} (w : World) {ops : Array Oper} {rest : List Oper} {o : Oper} {a : Act} {Q : Exit → Act → World → Prop} (hgd : o.guard = none) (s x : Operand) (t : TypeId)
    (ho : o.op = .call { callee := .builtin .append, args := #[s, x], argTypes := #[t, t] })
    (base : Nat) (e : TypeId) (i : TypeInfo) (z : Value) (size bytes : Nat) (ht : P.underlying t = some (.slice e)) (hi : P.info? e = some i) (hz : i.zero = some z)
    (hsize : i.size = size) (hby : i.bytes = bytes) (hzs : z.cells.size = size) (hsz : 0 < size)
    (v : Value) (n : Nat) (xs : List Value) (hs : a.eval s = v) (hown : w.ownsRow base e size v n xs)
    (ad : Addr) (m c : Nat) (news : List Value) (hx : a.eval x = .slice (some ad) m c) (hl : news.length = m * size) (hnews : ∀ j u, news[j]? = some u → w.cell? (ad.add j) = some u) (h1 : ∀ u ∈ news, u.oneCell' = true)
    (hm : 0 < m) (h63 : n + m ≤ maxLen) (hbytes : (n + m) * bytes ≤ 140737488355328) (hbase : base ≤ w.heap.size) (H : Nat) (hH : w.heap.size = H)
    (h : ∀ g cap w', w'.ownsRow base e size (.slice (some ⟨g, 0, none⟩) (n + m) cap) (n + m) (xs ++ news) → w.grownBy w' v.ownBlock → (v.ownBlock = some g ∨ g = H) → g < w'.heap.size → wpListIn F k P ops Q rest (a.put o.dst (.slice (some ⟨g, 0, none⟩) (n + m) cap)) w') : wpListIn F k P ops Q (o :: rest) a w := by
  refine wpListIn_plain hgd fun K hK' => ?_
  obtain ⟨g, cap, w', hrun, r1, r2, r3, r4⟩ := run_append_lies (P := P) w t o.type base e i z size bytes ht hi hz hsize hby hzs hsz v n xs hown ad m c news hl hnews h1 hm h63 hbytes hbase H hH
  unfold Oper.wpIn
  refine ⟨?_, ?_⟩
  · simp [Oper.about, ho, resolve, Target.leads, Sem.run_pure]
  · rw [Oper.semAt_plain F _ _ (by rw [ho]; intro c hc'; cases hc')]
    simp [execOp, ho, resolve, invoke, builtin, hs, hx, hrun, Result.andThen]
    exact hK' _ _ (h g cap w' r1 r2 r3 r4)
theorem own_typed {W : World} {base e size n : Nat} {v : Value} {xs : List Value} (h : W.ownsRow base e size v n xs) (z : Nat) (hz : v.ownBlock = some z) : ∃ cs, W.heap[z]? = some (.cells cs e) := by
  rcases h.2 with ⟨rfl, _⟩ | ⟨g, cap, cur, rfl, hb, hg, _⟩
  · simp [Value.ownBlock] at hz
  · have : g = z := by simpa [Value.ownBlock] using hz
    subst this
    exact ⟨_, hg⟩
theorem own_gw {Ty : TypeId} {m : Nat} {A B : World} {base e size n : Nat} {v : Value} {xs : List Value} (h : A.ownsRow base e size v n xs) (hg : Gw Ty m A B) (he : e ≠ Ty) : B.ownsRow base e size v n xs := own_heap h (fun z hz => by
  obtain ⟨cs, hc⟩ := own_typed h z hz
  rw [hg.same z _ hc (.inr ⟨cs, e, rfl, he⟩), hc])
set_option maxRecDepth 100000 in
set_option maxHeartbeats 16000000 in
theorem appseq_any (P5 L5 : Nat) (T : List Rte) (hT : T.length ≤ 1000000) (w : World) (Z : Nat → Prop) (hZ : ∀ z, Z z → z < w.heap.size)
    (hSq : ∀ Wl : World, Below w.heap.size w Wl → SeqZ 38 (9 - 1) Try.prog 51 #[.pointer (some ⟨P5, 0, none⟩), .pointer (some ⟨L5, 0, none⟩)] encR Z (fun ys => ys = T) (fun pre => pre <+: T) Wl) :
    Calls Try.prog 57 #[.slice none 0 0, .func (.func 51) #[] #[.pointer (some ⟨P5, 0, none⟩), .pointer (some ⟨L5, 0, none⟩)]] w fun e w' => (∃ v, e = .returned v ∧ w'.ownsRow w.heap.size 45 4 v T.length (rowR T)) ∧ Below w.heap.size w w' := by
  obtain ⟨i0, hi, hz0, hz1, hz2⟩ := info_parts Try.infoR5
  have q1 := bl1 w (.cells #[.slice none 0 0] 22)
  have HB0 := hidX q1
  have HS0 : Hid ((w.alloc (.cells #[.slice none 0 0] 22)).heap[w.heap.size]? = some (.cells #[.slice none 0 0] 22)) := hidX Array.getElem?_push_size
  have hs0 : (w.alloc (.cells #[.slice none 0 0] 22)).heap.size = w.heap.size + 1 := by simp
  have HSq := hidX hSq
  have HZ := hidX hZ
  have HI : Hid (Try.prog.info? 45 = some i0 ∧ i0.zero = some (.agg #[.int .u64 0, .int .u64 0, .int .i64 0, .int .i64 0]) ∧ i0.size = 4 ∧ i0.bytes = 32) := hidX ⟨hi, hz0, hz1, hz2⟩
  clear q1 hSq hZ hi hz0 hz1 hz2
  refine (callsIn_wide (n := 9)).1 ?_
  refine callsIn_of_wp_marks Try.func57 rfl trivial ?_ rfl
  simp only [Try.ntmps57, List.size_toArray, List.length_cons, List.length_nil, Nat.reduceAdd, Nat.reduceSub, Array.replicate_succ, Array.replicate_zero, List.push_toArray, List.append_toArray, List.nil_append, List.cons_append]
  refine wpIn_wide.2 ?_
  go_wp2_with fail
  revert HB0 HS0 hs0
  generalize w.alloc (.cells #[.slice none 0 0] 22) = Wl
  intro HB0 HS0 hs0
  refine (wpIn_wide (n := 9)).1 ?_
  refine rangeZ 9 (by decide) (gf := 51) (lb := #[.pointer (some ⟨P5, 0, none⟩), .pointer (some ⟨L5, 0, none⟩)]) rfl (enters_of Try.func51 (by kernel_rfl) rfl)
    (HSq.out Wl HB0.out) (fun z q => by have := HZ.out _ q; omega) (Below.refl _ _) (fun _ => rfl)
    (fun pre V => (∃ v, V.heap[w.heap.size]? = some (.cells #[v] 22) ∧ V.ownsRow (w.heap.size + 1) 45 4 v pre.length (rowR pre) ∧ Wl.heap.size ≤ V.heap.size) ∧ Below w.heap.size w V)
    (fun cd pre V => False)
    (fun s A B hs hb => by
      obtain ⟨⟨v, h1, h2, h3⟩, h4⟩ := hs
      exact ⟨⟨v, hb.same _ _ h1 (.inl (by omega)), own_gw h2 hb (by decide), Nat.le_trans h3 hb.size⟩, hb.low h4 (by omega)⟩)
    (fun cd s A B hs hb => hs)
    ⟨⟨_, HS0.out, ⟨rfl, .inl ⟨rfl, rfl⟩⟩, Nat.le_refl _⟩, HB0.out⟩
    (fun A z => z = w.heap.size ∨ ∃ v, A.cell? ⟨w.heap.size, 0, none⟩ = some v ∧ v.ownBlock = some z)
    (fun s A hs z hz => by
      obtain ⟨⟨v, h1, h2, h3⟩, h4⟩ := hs
      have hlt := blk_lt5 h1
      rcases hz with rfl | ⟨v', hv', hz⟩
      · exact ⟨hlt, fun q => by have := HZ.out _ q; omega⟩
      · rw [at_blk h1 0 v rfl] at hv'
        cases hv'
        have := h2.lt z hz
        exact ⟨this.2, fun q => by have := HZ.out _ q; omega⟩)
    (fun s A B hs hg z hz => by
      obtain ⟨⟨v, h1, h2, h3⟩, h4⟩ := hs
      rcases hz with rfl | ⟨v', hv', hz⟩
      · exact .inl rfl
      · refine .inr ⟨v', ?_, hz⟩
        rw [at_blk (hg.same _ _ h1 (.inl (by omega))) 0 v rfl] at hv'
        cases hv'
        exact at_blk h1 0 v rfl)
    (fun r a' V => ∃ N, Wl.heap.size ≤ N ∧ V.heap[N]? = some (.cells #[.int .u64 (hI r.1.1), .int .u64 (lI r.1.1), .int .i64 r.1.2, .int .i64 r.2] 45) ∧ a' = { tmps := #[.slice none 0 0, .func (.func 51) #[] #[.pointer (some ⟨P5, 0, none⟩), .pointer (some ⟨L5, 0, none⟩)], .pointer (some ⟨w.heap.size, 0, none⟩), undef, .slice none 0 0, .pointer (some ⟨N, 0, none⟩), .func (.func 51) #[] #[.pointer (some ⟨P5, 0, none⟩), .pointer (some ⟨L5, 0, none⟩)], .agg #[.int .u64 (hI r.1.1), .int .u64 (lI r.1.1), .int .i64 r.1.2, .int .i64 r.2], undef, undef, undef, undef, undef], defers := [] })
    (fun r a' A o o' hs h1 h2 => by
      obtain ⟨N, e1, e2, e3⟩ := hs
      refine ⟨N, e1, ?_, e3⟩
      by_cases c : N = Wl.heap.size + 1
      · subst c; rw [h1] at e2; cases e2; cases h2
      · exact (World.putObj_heap_other (by omega)).trans e2) ?assign ?body ?done ?stop
  case assign =>
    rintro lo pre r V K hi hK
    obtain ⟨⟨v, h1, h2, hN⟩, h4⟩ := hi
    have hb := bl1 V (.cells #[.int .u64 (hI r.1.1), .int .u64 (lI r.1.1), .int .i64 r.1.2, .int .i64 r.2] 45)
    have HK := hidX (fun a' h => hK a' (V.alloc (.cells #[.int .u64 (hI r.1.1), .int .u64 (lI r.1.1), .int .i64 r.1.2, .int .i64 r.2] 45)) ⟨hb.size, fun z o h1 h2 _ => (hb.block z (Array.getElem?_eq_some_iff.1 h2).1).trans h2⟩ ⟨hb.size, fun z o hz _ => (hb.block z (blk_lt5 hz)).trans hz, fun z hz => by
      rcases hz with rfl | ⟨v', hv', hz⟩
      · exact .inl (.inl rfl)
      · refine .inl (.inr ⟨v', ?_, hz⟩)
        rw [at_blk ((hb.block _ (blk_lt5 h1)).trans h1) 0 v rfl] at hv'
        cases hv'
        exact at_blk h1 0 v rfl⟩ ⟨⟨v, (hb.block _ (blk_lt5 h1)).trans h1, own_below hb h2, Nat.le_trans hN hb.size⟩, keepb hb h4⟩ ⟨V.heap.size, hN, Array.getElem?_push_size, h⟩)
    clear hK h1 h2 h4 hb
    unfold encR
    simp only [List.zip_toArray, List.zip_cons_cons, List.zip_nil_left, List.zip_nil_right, List.foldl_toArray, List.foldl_cons, List.foldl_nil, List.setIfInBounds_toArray, List.set_cons_zero, List.set_cons_succ, Array.zip]
    gi_wp2
    exact HK.out _ rfl
  case body =>
    rintro lo pre r a' V hl9 - ⟨⟨v, h1, h2, h3⟩, h4⟩ ⟨N, e1, e2, rfl⟩ hlt
    have hlen : pre.length + 1 ≤ T.length := by have := hlt.length_le; simpa using this
    obtain ⟨ao, cc, rfl⟩ := own_form h2
    have n0 := at_blk e2 0 (.int .u64 (hI r.1.1)) rfl
    have n1 := at_blk e2 1 (.int .u64 (lI r.1.1)) rfl
    have n2 := at_blk e2 2 (.int .i64 r.1.2) rfl
    have n3 := at_blk e2 3 (.int .i64 r.2) rfl
    have s0 := at_blk h1 0 (.slice ao pre.length cc) rfl
    have HV : Hid (V.heap[w.heap.size]? = some (.cells #[.slice ao pre.length cc] 22) ∧ V.ownsRow (w.heap.size + 1) 45 4 (.slice ao pre.length cc) pre.length (rowR pre) ∧ Wl.heap.size ≤ V.heap.size ∧ Below w.heap.size w V) := hidX ⟨h1, h2, h3, h4⟩
    clear h1 h2 h3 h4 e1 e2
    gi_wp2_with (with_reducible apply stopApp)
    obtain ⟨h1, h2, h3, h4⟩ := HV.out
    have hb := bl1 V (.cells #[.int .u64 (hI r.1.1), .int .u64 (lI r.1.1), .int .i64 r.1.2, .int .i64 r.2] 45)
    clear n0 n1 n2 n3 s0
    refine hidX (wpListIn_append_lies _ rfl _ _ 22 rfl (w.heap.size + 1) 45 i0 (.agg #[.int .u64 0, .int .u64 0, .int .i64 0, .int .i64 0]) 4 32 Try.underlying22 HI.out.1 HI.out.2.1 HI.out.2.2.1 HI.out.2.2.2 rfl (by decide) (.slice ao pre.length cc) pre.length (rowR pre) rfl (own_below hb h2) ⟨V.heap.size, 0, none⟩ 1 1 [.int .u64 (hI r.1.1), .int .u64 (lI r.1.1), .int .i64 r.1.2, .int .i64 r.2] rfl rfl (newsR5 V _ rfl _ _ _ _ _) (fourR5 _ _ _ _) (by decide) (by unfold maxLen; omega) (by omega) (by simp; omega) _ rfl ?_)
    intro g cap w' r1 r2 r3 r4
    rw [← rowR_oneE] at r1
    have hoS : (Value.slice ao pre.length cc).ownBlock ≠ some w.heap.size := fun q => by have := (h2.lt _ q).1; omega
    have hS : w'.heap[w.heap.size]? = some (.cells #[.slice ao pre.length cc] 22) := (r2.block _ (by have := blk_lt5 h1; simp; omega) (fun q => hoS q.symm)).trans ((hb.block _ (blk_lt5 h1)).trans h1)
    have hgS : ¬ g = w.heap.size := by
      rcases r3 with q | q
      · have := (h2.lt _ q).1; omega
      · have := blk_lt5 h1; simp at q; omega
    have s0 := at_blk hS 0 (.slice ao pre.length cc) rfl
    have f0 := fr_blk5 (j := 0) hS
    have HF : Hid (KeepsFrom Wl.heap.size V (w'.setCell ⟨w.heap.size, 0, none⟩ (.slice (some ⟨g, 0, none⟩) (pre.length + 1) cap)) ∧ Kx (fun A z => z = w.heap.size ∨ ∃ v, A.cell? ⟨w.heap.size, 0, none⟩ = some v ∧ v.ownBlock = some z) V (w'.setCell ⟨w.heap.size, 0, none⟩ (.slice (some ⟨g, 0, none⟩) (pre.length + 1) cap)) ∧ (∃ v, (w'.setCell ⟨w.heap.size, 0, none⟩ (.slice (some ⟨g, 0, none⟩) (pre.length + 1) cap)).heap[w.heap.size]? = some (.cells #[v] 22) ∧ (w'.setCell ⟨w.heap.size, 0, none⟩ (.slice (some ⟨g, 0, none⟩) (pre.length + 1) cap)).ownsRow (w.heap.size + 1) 45 4 v (pre ++ [r]).length (rowR (pre ++ [r])) ∧ Wl.heap.size ≤ (w'.setCell ⟨w.heap.size, 0, none⟩ (.slice (some ⟨g, 0, none⟩) (pre.length + 1) cap)).heap.size) ∧ Below w.heap.size w (w'.setCell ⟨w.heap.size, 0, none⟩ (.slice (some ⟨g, 0, none⟩) (pre.length + 1) cap))) := hidX (by
      have hsz : V.heap.size ≤ w'.heap.size := Nat.le_trans hb.size r2.size
      have hS2 : (w'.setCell ⟨w.heap.size, 0, none⟩ (.slice (some ⟨g, 0, none⟩) (pre.length + 1) cap)).heap[w.heap.size]? = some (.cells #[.slice (some ⟨g, 0, none⟩) (pre.length + 1) cap] 22) := by simpa using set_blk5 (o := 0) hS (.slice (some ⟨g, 0, none⟩) (pre.length + 1) cap)
      have kp : ∀ z o, V.heap[z]? = some o → ¬ z = w.heap.size → (Value.slice ao pre.length cc).ownBlock ≠ some z → (w'.setCell ⟨w.heap.size, 0, none⟩ (.slice (some ⟨g, 0, none⟩) (pre.length + 1) cap)).heap[z]? = some o := fun z o h5 h6 h7 => (hSet6 _ h6).trans ((r2.block _ (by have := blk_lt5 h5; simp; omega) (fun q => h7 q.symm)).trans ((hb.block _ (blk_lt5 h5)).trans h5))
      refine ⟨⟨by simpa using hsz, fun z o h5 h6 h7 => kp z o h6 (by have := blk_lt5 h1; omega) (fun q => ?_)⟩, ⟨by simpa using hsz, fun z o h5 h6 => kp z o h5 (fun q => h6 (.inl q)) (fun q => h6 (.inr ⟨_, at_blk h1 0 _ rfl, q⟩)), fun z hz => ?_⟩, ⟨_, hS2, ?_, by simp; omega⟩, ?_⟩
      · obtain ⟨cs, hcs⟩ := own_typed h2 z q
        rw [hcs] at h6
        cases h6
        cases h7
      · rcases hz with rfl | ⟨v', hv', hz⟩
        · exact .inl (.inl rfl)
        · rw [at_blk hS2 0 _ rfl] at hv'
          cases hv'
          have hz : g = z := by simpa [Value.ownBlock] using hz
          subst hz
          rcases r3 with q | q
          · exact .inl (.inr ⟨_, at_blk h1 0 _ rfl, q⟩)
          · exact .inr (by rw [q]; simp)
      · rw [List.length_append, List.length_singleton]
        refine own_heap r1 (fun z hz => hSet6 _ ?_)
        have hz : g = z := by simpa [Value.ownBlock] using hz
        omega
      · refine Below.setCell (p := ⟨w.heap.size, 0, none⟩) ?_ (Nat.le_refl _) _
        exact (keepb hb h4).grown r2 (by have := blk_lt5 h1; simp; omega) (fun z q => by have := (h2.lt z q).1; omega))
    clear h1 h2 h3 h4 hb r1 r2 r3 r4 hoS hgS hS HV
    gi_wp2
    exact HF.out
  case done =>
    rintro D ys V hD rfl ⟨⟨v, h1, h2, h3⟩, h4⟩ hK
    obtain ⟨ao, cc, rfl⟩ := own_form h2
    have s0 := at_blk h1 0 (.slice ao ys.length cc) rfl
    have HE : Hid (V.ownsRow (w.heap.size + 1) 45 4 (.slice ao ys.length cc) ys.length (rowR ys) ∧ Below w.heap.size w V ∧ V.heap[D]? = some (.deferred (some []))) := hidX ⟨h2, h4, hK⟩
    clear h1 h2 h3 h4 hK
    refine wl_nilM (P := Try.prog) (ops := #[]) ?_
    go_wp2
    obtain ⟨h2, h4, hK⟩ := HE.out
    refine ⟨by simp, .inl ⟨_, _, rfl, run_takeDeferred hK, ?_⟩⟩
    refine ⟨.slice ao ys.length cc, ?_, ⟨_, rfl, own_heap (own_wide h2 (by omega)) (fun z hz => World.putObj_heap_other (fun q => ?_))⟩, h4.trans (belowK_b (w := w) (Nat.le_refl _) _ D _ _ (by omega) hK rfl rfl)⟩
    · simp [results, Try.results57, go_sem]
    · obtain ⟨cs, hcs⟩ := own_typed h2 z hz
      rw [q, hK] at hcs
      cases hcs
  case stop =>
    rintro D cd pre V hD hpre hi hK
    exact hi.elim
end Go.Proofs.Ytnaghiipfgdimaa
/-
  A list of one's own, gone over: each, Collect and Over.
-/
namespace Go.Proofs.Ytnaghiipfgdimaa
open Go.RowKit Go.Shelf
set_option linter.unusedSimpArgs false
set_option linter.unusedVariables false
attribute [local go_sem] Oper.semAt_some

theorem each_any (ao : Option Addr) (k c : Nat) (w : World) :
    Calls Try.prog 37 #[.slice ao k c] w fun e w' => e = .returned (.func (.func 56) #[] #[.pointer (some ⟨w.heap.size, 0, none⟩)]) ∧ w' = w.alloc (.cells #[.slice ao k c] 22) := by
  go_enter Try.func37, Try.ntmps37
  go_wp2
  exact bodyPost_ret (v := .func (.func 56) #[] #[.pointer (some ⟨w.heap.size, 0, none⟩)]) (by simp [results, Try.results37, go_sem]) rfl ⟨rfl, rfl⟩
theorem collect_any (P5 L5 : Nat) (T : List Rte) (hT : T.length ≤ 1000000) (w : World) (Z : Nat → Prop) (hZ : ∀ z, Z z → z < w.heap.size)
    (hSq : ∀ Wl : World, Below w.heap.size w Wl → SeqZ 38 (9 - 1) Try.prog 51 #[.pointer (some ⟨P5, 0, none⟩), .pointer (some ⟨L5, 0, none⟩)] encR Z (fun ys => ys = T) (fun pre => pre <+: T) Wl) :
    Calls Try.prog 38 #[.func (.func 51) #[] #[.pointer (some ⟨P5, 0, none⟩), .pointer (some ⟨L5, 0, none⟩)]] w fun e w' => (∃ v, e = .returned v ∧ w'.ownsRow w.heap.size 45 4 v T.length (rowR T)) ∧ Below w.heap.size w w' := by
  have KA := appseq_any P5 L5 T hT w Z hZ hSq
  go_enter Try.func38, Try.ntmps38
  clear hSq
  go_wp2_with fail
  refine KA.mono ?_
  rintro e w2 ⟨⟨v, rfl, ho⟩, hb⟩
  have HO := hidX ho
  have HB := hidX hb
  clear KA ho hb
  go_wp2
  exact bodyPost_ret (v := v) (by simp [results, Try.results38, go_sem]) rfl ⟨⟨v, rfl, HO.out⟩, HB.out⟩
/-- What a list of one's own is read by. -/
def ZsR (ao : Option Addr) (z : Nat) : Prop := ∃ b off, ao = some ⟨b, off, none⟩ ∧ z = b
theorem rwr_kx {Xc : World → Nat → Prop} {ao : Option Addr} {c : Nat} {T : List Rte} {V V' : World} (h : RwR V (.slice ao T.length c) T) (hk : Kx Xc V V') (hx : ∀ z, ZsR ao z → ¬ Xc V z) : RwR V' (.slice ao T.length c) T := by
  obtain ⟨ao', c', e, h⟩ := h
  injection e with e1 e2 e3
  subst e1 e3
  refine ⟨_, _, rfl, ?_⟩
  rcases h with h | ⟨b, off, rfl, h⟩
  · exact .inl h
  · exact .inr ⟨b, off, rfl, fun j u hj => kx_cell hk (hx b ⟨b, off, rfl, rfl⟩) (h j u hj)⟩
set_option maxRecDepth 100000 in
set_option maxHeartbeats 16000000 in
theorem each1_any (n B : Nat) (ao : Option Addr) (c : Nat) (T : List Rte) (hT : T.length ≤ 1000000000) (w : World) (hB : w.heap[B]? = some (.cells #[.slice ao T.length c] 22)) (hv : RwR w (.slice ao T.length c) T) :
    SeqZ 38 n Try.prog 56 #[.pointer (some ⟨B, 0, none⟩)] encR (ZsR ao) (fun ys => ys = T) (fun pre => pre <+: T) w := by
  intro l9 J Jx Xc W hW hJ hJx hc1 hc2 hY h0
  have HJ := hidX hJ
  have HY := hidX hY
  have HC1 := hidX (fun s A (h : J s A) z (hz : ZsR ao z) (hx : Xc A z) => (hc1 s A h z hx).2 hz)
  have HJ0 := hidX h0
  have HV0 := hidX (hv.below hW)
  have a0 := at_blk ((hW.block _ (blk_lt5 hB)).trans hB) 0 (.slice ao T.length c) rfl
  have HC3 := hidX (fun s A (h : J s A) z (hx : Xc A z) => (hc1 s A h z hx).1)
  have HQ := hidX (fun s A B (h : J s A) (hg : Gw 38 W.heap.size A B) z (hx : ¬ Xc A z) (q : Xc B z) => hx (hc2 s A B h hg z q))
  clear hJ hJx hY h0 hc1 hc2 hB hv
  refine callsIn_of_wp Try.func56 rfl trivial ?_ rfl
  simp only [Try.ntmps56, List.size_toArray, List.length_cons, List.length_nil, Nat.reduceAdd, Nat.reduceSub, Array.replicate_succ, Array.replicate_zero, List.push_toArray, List.append_toArray, List.nil_append, List.cons_append]
  gi_wp2_with fail
  clear a0
  gi_loopw [7] (fun i wr => ∃ k : Nat, k ≤ T.length ∧ i = .int .i64 k ∧ Hid (J (T.take k) wr) ∧ Hid (RwR wr (.slice ao T.length c) T)) (fun i _ => T.length - (intOf i).toNat)
  case atStart => exact ⟨0, Nat.zero_le _, rfl, HJ0, HV0⟩
  case round =>
    clear HJ0 HV0
    obtain ⟨k, hk, rfl, HJw, HVw⟩ := hrel
    by_cases hkl : k < T.length
    · have hk1 : (k : Int) < (T.length : Int) := by omega
      have hk0 : (0 : Int) ≤ (k : Int) := by omega
      have wk : IntKind.i64.wrap ((k : Int) + 1) = ((k + 1 : Nat) : Int) := by rw [IntKind.wrap_i64]; push_cast; omega
      have hTk : T.take k ++ [T[k]] = T.take (k + 1) := by rw [List.take_succ_eq_append_getElem hkl]
      have Hpx : Hid (T.take k ++ [T[k]] <+: T) := hidX (by rw [hTk]; exact List.take_prefix _ _)
      have HTk := hidX hTk
      obtain ⟨ao', c', e, hrow⟩ := HVw.out
      injection e with e1 e2 e3
      subst e1 e3
      rcases hrow with h | ⟨b, off, rfl, hrow⟩
      · rw [h] at hkl; simp at hkl
      obtain ⟨x0, x1, x2, x3⟩ := rwr_cells hrow k hkl
      clear hrow hTk e2
      revert x0 x1 x2 x3 Hpx HTk
      generalize T[k] = r
      intro Hpx HTk x0 x1 x2 x3
      have q5 := bl1 wr (.cells #[.int .u64 (hI r.1.1), .int .u64 (lI r.1.1), .int .i64 r.1.2, .int .i64 r.2] 45)
      have HJ5 := hidX (HJ.out _ _ _ HJw.out (Gw.of q5))
      have HV5 := hidX (HVw.out.below q5)
      have HX5 : (wr.alloc (.cells #[.int .u64 (hI r.1.1), .int .u64 (lI r.1.1), .int .i64 r.1.2, .int .i64 r.2] 45)).heap[wr.heap.size]? = some (.cells #[.int .u64 (hI r.1.1), .int .u64 (lI r.1.1), .int .i64 r.1.2, .int .i64 r.2] 45) := Array.getElem?_push_size
      obtain ⟨fn, tmps, assign, body, hy, hR⟩ := HY.out _ r _ HJ5.out Hpx.out
      dsimp only [encR] at hy
      clear HVw HJw q5
      gi_wp2
      refine ⟨fun q => (by cases q), hR.mono ?_⟩
      rintro e V7 (⟨rfl, hJ7, hk7⟩ | ⟨rfl, hx7⟩)
      · have HJ7 : Hid (J (T.take (k + 1)) V7) := hidX (by rw [← HTk.out]; exact hJ7)
        have HV7 := hidX (rwr_kx HV5.out hk7 (fun z hz q => HC1.out _ _ HJ5.out z hz q))
        clear hJ7 hk7 hy hR HJ5 HV5 HX5 x0 x1 x2 x3
        gi_wp2
        go_roundw
        case rel => exact ⟨k + 1, by omega, rfl, HJ7, HV7⟩
        case measure => simp [intOf]; omega
      · have HX7 := hidX hx7
        clear hx7 hy hR HJ5 HV5 HX5 x0 x1 x2 x3
        gi_wp2
        exact bodyPost_ret (v := .tuple #[]) (by simp [results, Try.results56, go_sem]) rfl ⟨⟨_, rfl⟩, .inr ⟨_, Hpx.out, HX7.out⟩⟩
    · obtain rfl : k = T.length := by omega
      have hk1 : ¬ (T.length : Int) < (T.length : Int) := by omega
      have HE : Hid (J T wr) := hidX (by have := HJw.out; rwa [List.take_length] at this)
      clear HJw HVw hkl
      gi_wp2
      go_end0
      exact ⟨⟨_, rfl⟩, .inl HE.out⟩
/-- Over of a table that was handed in. -/
theorem over_any (F : Int) (px : BitVec 128) (pn : Int) (ao : Option Addr) (c : Nat) (l : List Rte) (w : World) (hF : F ≤ 128) (hO : OrdR l) (hRt : RtR F l) (hp : Rt F px pn) (hl : l.length ≤ 1000000) (hv : RowA w 4 (.slice ao l.length c) l.length (rowR l)) (T : List Rte) (hT : T = (l.filter (inR px pn)).reverse) :
    Calls Try.prog 20 #[.agg #[.int .i64 F, .slice ao l.length c], .agg #[.int .u64 (hI px), .int .u64 (lI px), .int .i64 pn]] w fun e w' => (∃ B v, e = .returned (.func (.func 56) #[] #[.pointer (some ⟨B, 0, none⟩)]) ∧ w'.heap[B]? = some (.cells #[v] 22) ∧ w'.ownsRow w.heap.size 45 4 v T.length (rowR T)) ∧ Below w.heap.size w w' := by
  have hTl : T.length ≤ 1000000 := by rw [hT, List.length_reverse]; exact Nat.le_trans (List.length_filter_le _ _) hl
  obtain ⟨Zb, hZ1, hZ2⟩ := upwT_any F px pn ao c l w hF hO hRt hp (by omega) hv
  rw [← hT] at hZ2
  have HZ1 := hidX hZ1
  have HZ2 := hidX hZ2
  have q1 := bl1 w (.cells #[.int .i64 F, .slice ao l.length c] 25)
  have q2 := bl1 (w.alloc (.cells #[.int .i64 F, .slice ao l.length c] 25)) (.cells #[.int .u64 (hI px), .int .u64 (lI px), .int .i64 pn] 38)
  have HB0 := hidX (keepb q2 q1)
  have hs0 : ((w.alloc (.cells #[.int .i64 F, .slice ao l.length c] 25)).alloc (.cells #[.int .u64 (hI px), .int .u64 (lI px), .int .i64 pn] 38)).heap.size = w.heap.size + 2 := by simp
  have t0 := (q2.block _ (by simp)).trans (World.alloc_heap_new w (.cells #[.int .i64 F, .slice ao l.length c] 25))
  have t1 := at_blk t0 1 (.slice ao l.length c) rfl
  have p0 : ((w.alloc (.cells #[.int .i64 F, .slice ao l.length c] 25)).alloc (.cells #[.int .u64 (hI px), .int .u64 (lI px), .int .i64 pn] 38)).heap[w.heap.size + 1]? = some (.cells #[.int .u64 (hI px), .int .u64 (lI px), .int .i64 pn] 38) := by have := World.alloc_heap_new (w.alloc (.cells #[.int .i64 F, .slice ao l.length c] 25)) (.cells #[.int .u64 (hI px), .int .u64 (lI px), .int .i64 pn] 38); rwa [World.size_alloc] at this
  have p1 := at_blk p0 0 (.int .u64 (hI px)) rfl
  have p2 := at_blk p0 1 (.int .u64 (lI px)) rfl
  have p3 := at_blk p0 2 (.int .i64 pn) rfl
  clear q1 q2 t0 p0 hZ1 hZ2 hO hRt hp hv hT
  go_enter Try.func20, Try.ntmps20
  go_wp2_with fail
  clear t1 p1 p2 p3
  revert HB0 hs0
  generalize (w.alloc (.cells #[.int .i64 F, .slice ao l.length c] 25)).alloc (.cells #[.int .u64 (hI px), .int .u64 (lI px), .int .i64 pn] 38) = V0
  intro HB0 hs0
  refine (upwG_any ao l.length c px pn V0).mono ?_
  rintro e Wl ⟨rfl, rfl⟩
  have k1 := bl1 V0 (.cells #[.slice ao l.length c] 22)
  have k2 := bl1 (V0.alloc (.cells #[.slice ao l.length c] 22)) (.cells #[.int .u64 (hI px), .int .u64 (lI px), .int .i64 pn] 38)
  have HB1 := hidX (keepb k2 (keepb k1 HB0.out))
  have hL5 := (k2.block _ (by simp)).trans (World.alloc_heap_new V0 (.cells #[.slice ao l.length c] 22))
  have HL5 := hidX (at_blk hL5 0 (.slice ao l.length c) rfl)
  have HP5 := hidX (World.alloc_heap_new (V0.alloc (.cells #[.slice ao l.length c] 22)) (.cells #[.int .u64 (hI px), .int .u64 (lI px), .int .i64 pn] 38))
  rw [World.size_alloc] at HP5
  have hs1 : ((V0.alloc (.cells #[.slice ao l.length c] 22)).alloc (.cells #[.int .u64 (hI px), .int .u64 (lI px), .int .i64 pn] 38)).heap.size = V0.heap.size + 2 := by simp
  clear k1 k2 hL5
  revert HB1 HL5 HP5 hs1
  generalize (V0.alloc (.cells #[.slice ao l.length c] 22)).alloc (.cells #[.int .u64 (hI px), .int .u64 (lI px), .int .i64 pn] 38) = W4
  obtain ⟨L5, hL5⟩ : ∃ L5, L5 = V0.heap.size := ⟨_, rfl⟩
  obtain ⟨P5, hP5⟩ : ∃ P5, P5 = V0.heap.size + 1 := ⟨_, rfl⟩
  rw [← hP5, ← hL5]
  intro HB1 HL5 HP5 hs1
  have hP5l : P5 < W4.heap.size := blk_lt5 HP5.out
  have hL5l : L5 < W4.heap.size := cell_in HL5.out
  have KC := collect_any P5 L5 T hTl W4 (fun z => z = P5 ∨ z = L5 ∨ Zb z) (fun z q => by
    rcases q with q | q | q
    · omega
    · omega
    · have := HZ1.out _ q; have := HB1.out.size; omega) (fun Wl hW => HZ2.out (9 - 1) Wl P5 L5 (keepb hW HB1.out) ((hW.block _ hP5l).trans HP5.out) (keepc hW HL5.out))
  have hws : w.heap.size ≤ W4.heap.size := HB1.out.size
  clear hP5 hL5 hs1 hs0 HZ2 HZ1
  go_wp2_with fail
  refine KC.mono ?_
  rintro e w5 ⟨⟨v, rfl, ho⟩, hb⟩
  obtain ⟨ao2, c2, rfl⟩ := own_form ho
  have HO5 := hidX ho
  have HB5 := hidX (keepb hb HB1.out)
  clear KC ho hb HB1 HL5 HP5
  go_wp2_with fail
  refine (each_any ao2 T.length c2 w5).mono ?_
  rintro e w6 ⟨rfl, rfl⟩
  have k3 := bl1 w5 (.cells #[.slice ao2 T.length c2] 22)
  have HF : Hid ((w5.alloc (.cells #[.slice ao2 T.length c2] 22)).heap[w5.heap.size]? = some (.cells #[.slice ao2 T.length c2] 22) ∧ (w5.alloc (.cells #[.slice ao2 T.length c2] 22)).ownsRow w.heap.size 45 4 (.slice ao2 T.length c2) T.length (rowR T) ∧ Below w.heap.size w (w5.alloc (.cells #[.slice ao2 T.length c2] 22))) := hidX ⟨Array.getElem?_push_size, own_below k3 (own_wide HO5.out hws), keepb k3 HB5.out⟩
  clear k3 HO5 HB5
  go_wp2
  exact bodyPost_ret (v := .func (.func 56) #[] #[.pointer (some ⟨w5.heap.size, 0, none⟩)]) (by simp [results, Try.results20, go_sem]) rfl ⟨⟨_, _, rfl, HF.out.1, HF.out.2.1⟩, HF.out.2.2⟩
end Go.Proofs.Ytnaghiipfgdimaa
/-
  A tree of package trie in memory, and what its plain questions tell.
-/
namespace Go.Proofs.Ytnaghiipfgdimaa
open Go.RowKit
set_option linter.unusedSimpArgs false
set_option linter.unusedVariables false

/-- A node: the place of its word, its kid by 1, how many routes, its next hop, its length, its height. -/
structure Nd where
  word : Int
  high : Int
  count : Int
  hop : Int
  length : Int
  height : Int
/-- One that has nothing. -/
def Nd.none : Nd := ⟨0, 0, 0, 0, 0, 0⟩
def Nd.val (x : Nd) : Value := .agg #[.int .i32 x.word, .int .i32 x.high, .int .i32 x.count, .int .u16 x.hop, .int .u8 x.length, .int .u8 x.height]
/-- The cells of a node. -/
def AtN (W : World) (b o : Nat) (x : Nd) : Prop := W.cell? ⟨b, o, none⟩ = some (.int .i32 x.word) ∧ W.cell? ⟨b, o + 1, none⟩ = some (.int .i32 x.high) ∧ W.cell? ⟨b, o + 2, none⟩ = some (.int .i32 x.count) ∧ W.cell? ⟨b, o + 3, none⟩ = some (.int .u16 x.hop) ∧ W.cell? ⟨b, o + 4, none⟩ = some (.int .u8 x.length) ∧ W.cell? ⟨b, o + 5, none⟩ = some (.int .u8 x.height)
theorem AtN.below {W W' : World} {b o : Nat} {x : Nd} (k : AtN W b o x) (hb : Below W.heap.size W W') : AtN W' b o x := ⟨keepc hb k.1, keepc hb k.2.1, keepc hb k.2.2.1, keepc hb k.2.2.2.1, keepc hb k.2.2.2.2.1, keepc hb k.2.2.2.2.2⟩
/-- A tree in memory: its family, the row of its nodes (block g, from its beginning on), the value of its row of words. -/
structure TrN (W : World) (B : Nat) (F : Int) (g cap : Nat) (wv : Value) (L : List Nd) : Prop where
  w : W.cell? ⟨B, 0, none⟩ = some (.int .i64 F)
  n : W.cell? ⟨B, 1, none⟩ = some (.slice (some ⟨g, 0, none⟩) L.length cap)
  o : W.cell? ⟨B, 2, none⟩ = some wv
  row : ∀ j (hj : j < L.length), AtN W g (j * 6) L[j]
theorem TrN.below {W W' : World} {B : Nat} {F : Int} {g cap : Nat} {wv : Value} {L : List Nd} (k : TrN W B F g cap wv L) (hb : Below W.heap.size W W') : TrN W' B F g cap wv L := ⟨keepc hb k.w, keepc hb k.n, keepc hb k.o, fun j hj => (k.row j hj).below hb⟩
/-- The node of a number. -/
def ndAt (L : List Nd) (n : Int) : Nd := if 0 ≤ n then L.getD n.toNat Nd.none else Nd.none
def isN (L : List Nd) (n : Int) : Bool := decide (0 ≤ n) && decide (n < L.length)
end Go.Proofs.Ytnaghiipfgdimaa
/-
  A tree that grows, in memory: the grower, the tree, and their three rows.
-/
namespace Go.Proofs.Ytnaghiipfgdimaa
open Go.RowKit
set_option linter.unusedSimpArgs false
set_option linter.unusedVariables false

theorem hid8 {p : Prop} (h : p) : Hid p := h
theorem cellB {W W' : World} {B : Nat} (e : W'.heap[B]? = W.heap[B]?) (o : Nat) : W'.cell? ⟨B, o, none⟩ = W.cell? ⟨B, o, none⟩ := World.cell?_of_block (w := W) (a := ⟨B, o, none⟩) e
theorem frozB {W W' : World} {B : Nat} (e : W'.heap[B]? = W.heap[B]?) (o : Nat) : W'.frozen? ⟨B, o, none⟩ = W.frozen? ⟨B, o, none⟩ := World.frozen?_of_block (w := W) (a := ⟨B, o, none⟩) e
theorem own_blk {W W' : World} {base e size n : Nat} {v : Value} {xs : List Value} (h : W.ownsRow base e size v n xs) (he : ∀ g, v.ownBlock = some g → W'.heap[g]? = W.heap[g]?) : W'.ownsRow base e size v n xs := by
  refine ⟨h.1, ?_⟩
  rcases h.2 with hn | ⟨g, cap, cur, rfl, hb, hg, rest⟩
  · exact .inl hn
  · exact .inr ⟨g, cap, cur, rfl, hb, by rw [he g rfl]; exact hg, rest⟩
theorem setB {W : World} {b o : Nat} (u : Value) {k : Nat} (h : ¬ k = b) : (W.setCell ⟨b, o, none⟩ u).heap[k]? = W.heap[k]? := Below.heap_setCell W ⟨b, o, none⟩ u k h
/-- The cells of a row of nodes, of words, of numbers. -/
def rowNd : List Nd → List Value
  | [] => []
  | x :: l => .int .i32 x.word :: .int .i32 x.high :: .int .i32 x.count :: .int .u16 x.hop :: .int .u8 x.length :: .int .u8 x.height :: rowNd l
def rowWd : List (BitVec 128) → List Value
  | [] => []
  | x :: l => .int .u64 (hI x) :: .int .u64 (lI x) :: rowWd l
def rowIn : List Nat → List Value
  | [] => []
  | k :: l => .int .i64 (k : Int) :: rowIn l
theorem rowNd_app : ∀ l m, rowNd (l ++ m) = rowNd l ++ rowNd m
  | [], m => rfl
  | x :: l, m => by simp [rowNd, rowNd_app l m]
theorem rowWd_app : ∀ l m, rowWd (l ++ m) = rowWd l ++ rowWd m
  | [], m => rfl
  | x :: l, m => by simp [rowWd, rowWd_app l m]
theorem rowIn_app : ∀ l m, rowIn (l ++ m) = rowIn l ++ rowIn m
  | [], m => rfl
  | x :: l, m => by simp [rowIn, rowIn_app l m]
section
variable {W W' : World} {base G B : Nat} {F : Int} {L : List Nd} {ws : List (BitVec 128)} {y : List Nat} {vn vw vy : Value}
end
end Go.Proofs.Ytnaghiipfgdimaa
/-
  A drawn region with one call in its midst that changes memory: one walk of the text's order, the call's answer a letter.
-/
namespace Go.Proofs.Ytnaghiipfgdimaa
open Go.RowKit
set_option linter.unusedSimpArgs false
set_option linter.unusedVariables false
section
variable {P : Program}
theorem cl_region {id : Nat} {l : List Oper} (m j : Nat) {oj : Oper} (ok : AlOk l m j oj) {D : World → Prop} {C1 : Nat → World → Prop} {Q : Exit → Act → World → Prop} {a : Act} {w : World} (ds : List (Option Tmp)) (vals : Nat → List Value) (val : Nat → Value) (d : Nat) (rd : List Nat) (hm : P.follows .mixedOrders = true)
    (hd : oj.dst = some d) (hA : ∀ N, (putAll a ds (vals N)).tmps.toList.eraseIdx d = (putAll a ds (vals 0)).tmps.toList.eraseIdx d) (hrd : readB l m oj rd = true)
    (hal : ∀ w (a' : Act), D w → (∀ s ∈ rd, a'.tmps[s]? = (putAll a ds (vals 0)).tmps[s]?) → ∀ (K : Act → World → Prop) Q', (∀ N w', C1 N w' → K (a'.put oj.dst (val N)) w') → oj.wp P a' w K Q')
    (hD : D w.drew)
    (hwalk : ∀ N (X : World → Prop), (X = D ∨ X = C1 N) → wpQuiet P (rep (l.take m) j (val N)).toArray X (fun a' => a' = putAll a ds (vals N)) (rep (l.take m) j (val N)) a)
    (hpost : ∀ N w, C1 N w → wpList P l.toArray Q (l.drop m) (putAll a ds (vals N)) w) : (Code.region id l.toArray true).wp P Q a w :=
  sp_region m j ok (A := fun N => putAll a ds (vals N)) val rd hm (alA ok d hd hA) (read_of hrd) hal hD hwalk hpost
end
/-- All pairs of numbers, one behind the other. -/
def decN : Nat → Nat × Nat
  | 0 => (0, 0)
  | n + 1 => if (decN n).2 = 0 then (0, (decN n).1 + 1) else ((decN n).1 + 1, (decN n).2 - 1)
theorem decN_all (s : Nat) : ∀ a b : Nat, a + b = s → ∃ n, decN n = (a, b) := by
  induction s with
  | zero =>
    intro a b h
    have ha : a = 0 := by omega
    have hb : b = 0 := by omega
    subst ha; subst hb
    exact ⟨0, rfl⟩
  | succ s ih =>
    intro a
    induction a with
    | zero =>
      intro b h
      obtain ⟨n, hn⟩ := ih s 0 (by omega)
      refine ⟨n + 1, ?_⟩
      rw [decN, hn, if_pos rfl]
      simp; omega
    | succ a iha =>
      intro b h
      obtain ⟨n, hn⟩ := iha (b + 1) (by omega)
      refine ⟨n + 1, ?_⟩
      rw [decN, hn, if_neg (by simp)]
      simp
theorem decN_ex (a b : Nat) : ∃ n, decN n = (a, b) := decN_all (a + b) a b rfl
end Go.Proofs.Ytnaghiipfgdimaa
