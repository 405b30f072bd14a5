/-
  Part 15 of the proof: 1 texts, one behind the other.
-/
import Derived.Test.YtkgfeegcdohkdaaDoorPart14
/-
  What the call of package ranges' putTogether does, at segments, with beside's function.
-/
namespace Go.Proofs.YtkgfeegcdohkdaaDoor
open Go.RowKit
set_option linter.unusedSimpArgs false
set_option linter.unusedVariables false

def psIn (F : Int) : List (BitVec 128 × BitVec 128) → BitVec 128 × BitVec 128 → List (BitVec 128 × BitVec 128)
  | [], p => [p]
  | a :: st, p => match besV F a p with
    | some r => psIn F st r
    | none => p :: a :: st
def psAll (F : Int) (st : List (BitVec 128 × BitVec 128)) : List (BitVec 128 × BitVec 128) → List (BitVec 128 × BitVec 128)
  | [] => st
  | p :: l => psAll F (psIn F st p) l
def BdS (p : BitVec 128 × BitVec 128) : Prop := True
theorem psIn_some {F : Int} {a p r : BitVec 128 × BitVec 128} {st : List (BitVec 128 × BitVec 128)} (h : besV F a p = some r) : psIn F (a :: st) p = psIn F st r := by
  rw [psIn, h]
theorem psIn_none {F : Int} {a p : BitVec 128 × BitVec 128} {st : List (BitVec 128 × BitVec 128)} (h : besV F a p = none) : psIn F (a :: st) p = p :: a :: st := by
  rw [psIn, h]
/-- What is read while two are put together: the last one that is done, the part, the row. -/
def PUS (w : World) (q0 g n cap : Nat) (ax an qx qn : BitVec 128) (s : List (BitVec 128 × BitVec 128)) (W : World) : Prop := (W.cell? ⟨g, n * 5, none⟩ = some (.int .u64 (hI ax)) ∧ W.cell? ⟨g, n * 5 + 1, none⟩ = some (.int .u64 (lI ax)) ∧ W.cell? ⟨g, n * 5 + 2, none⟩ = some (.int .u64 (hI an)) ∧ W.cell? ⟨g, n * 5 + 3, none⟩ = some (.int .u64 (lI an)) ∧ W.cell? ⟨g, n * 5 + 4, none⟩ = some (.int .i64 1)) ∧ AtS W q0 qx qn 1 ∧ W.ownsRow w.heap.size 64 5 (.slice (some ⟨g, 0, none⟩) (n + 1) cap) (n + 1) (rowS s) ∧ Below w.heap.size w W
theorem PUS.below {w W W' : World} {q0 g n cap : Nat} {ax qx an qn : BitVec 128} {s : List (BitVec 128 × BitVec 128)} (h : PUS w q0 g n cap ax an qx qn s W) (hb : Below W.heap.size W W') : PUS w q0 g n cap ax an qx qn s W' := ⟨⟨keepc hb h.1.1, keepc hb h.1.2.1, keepc hb h.1.2.2.1, keepc hb h.1.2.2.2.1, keepc hb h.1.2.2.2.2⟩, h.2.1.below hb, own_below hb h.2.2.1, keepb hb h.2.2.2⟩
theorem PUS.drew {w W : World} {q0 g n cap : Nat} {ax qx an qn : BitVec 128} {s : List (BitVec 128 × BitVec 128)} (h : PUS w q0 g n cap ax an qx qn s W) : PUS w q0 g n cap ax an qx qn s W.drew := ⟨h.1, h.2.1, h.2.2.1.drew, h.2.2.2.drew⟩
theorem PUS.lt {w W : World} {q0 g n cap : Nat} {ax qx an qn : BitVec 128} {s : List (BitVec 128 × BitVec 128)} (h : PUS w q0 g n cap ax an qx qn s W) : g < W.heap.size := cell_in h.1.1
theorem PUS.set {w W : World} {q0 g n cap N : Nat} {ax qx an qn : BitVec 128} {s : List (BitVec 128 × BitVec 128)} (h : PUS w q0 g n cap ax an qx qn s W) (h1 : w.heap.size ≤ N) (h2 : ¬ g = N) (h3 : ¬ q0 = N) (u v t u' v' : Value) : PUS w q0 g n cap ax an qx qn s (set5 W N u v t u' v') := by
  have h2' : ¬ N = g := fun e => h2 e.symm
  have k : ∀ o, (set5 W N u v t u' v').cell? ⟨g, o, none⟩ = W.cell? ⟨g, o, none⟩ := fun o => by unfold set5; simp [go_sem, h2, h2']
  obtain ⟨⟨a1, a2, a3, a4, a5⟩, b, c, d⟩ := h
  refine ⟨⟨?_, ?_, ?_, ?_, ?_⟩, b.setO (fun e => h3 e.symm) u v t u' v', own_set5 c N u v t u' v' ?_, bset5 d h1 u v t u' v'⟩
  · rw [k]; exact a1
  · rw [k]; exact a2
  · rw [k]; exact a3
  · rw [k]; exact a4
  · rw [k]; exact a5
  · intro e; simp [Value.ownBlock] at e; exact h2 e
theorem owns_cut {w : World} {base n g cap : Nat} {s : List (BitVec 128 × BitVec 128)} {a : BitVec 128 × BitVec 128} (h : w.ownsRow base 64 5 (.slice (some ⟨g, 0, none⟩) (n + 1) cap) (n + 1) (rowS (s ++ [a]))) (hn : s.length = n) : w.ownsRow base 64 5 (.slice (some ⟨g, 0, none⟩) n cap) n (rowS s) := by
  rcases h.2 with ⟨e0, _⟩ | ⟨g', cap', cur, e0, hb, hg, hnc, hm, hs, ht⟩
  · cases e0
  · injection e0 with e1 _ e3
    injection e1 with e1
    injection e1 with e1
    subst e1; subst e3
    refine ⟨by rw [rowS_len]; omega, .inr ⟨g, cap, cur, rfl, hb, hg, by omega, hm, hs, ?_⟩⟩
    have e : rowS s = (rowS (s ++ [a])).take (n * 5) := by
      rw [rowS_app, List.take_append_of_le_length (by rw [rowS_len]; omega), List.take_of_length_le (by rw [rowS_len]; omega)]
    rw [e, ← ht, List.take_take, Nat.min_eq_left (by omega)]
theorem rows_last {W : World} {base n g c : Nat} {s : List (BitVec 128 × BitVec 128)} {a : BitVec 128 × BitVec 128} (h : W.ownsRow base 64 5 (.slice (some ⟨g, 0, none⟩) (n + 1) c) (n + 1) (rowS (s ++ [a]))) (hn : s.length = n) :
    W.cell? ⟨g, n * 5, none⟩ = some (.int .u64 (hI a.1)) ∧ W.cell? ⟨g, n * 5 + 1, none⟩ = some (.int .u64 (lI a.1)) ∧ W.cell? ⟨g, n * 5 + 2, none⟩ = some (.int .u64 (hI a.2)) ∧ W.cell? ⟨g, n * 5 + 3, none⟩ = some (.int .u64 (lI a.2)) ∧ W.cell? ⟨g, n * 5 + 4, none⟩ = some (.int .i64 1) := by
  have t := rows_cells h (by simp [hn]) n (by simp [hn])
  have e : (s ++ [a])[n]'(by simp [hn]) = a := by subst hn; simp
  rwa [e] at t
theorem owns_cap {W : World} {base n g c : Nat} {xs : List Value} (h : W.ownsRow base 64 5 (.slice (some ⟨g, 0, none⟩) n c) n xs) : n ≤ c := by
  rcases h.2 with ⟨e0, _⟩ | ⟨g', cap', cur, e0, hb, hg, hnc, hm, hs, ht⟩
  · cases e0
  · injection e0 with e1 _ e3
    omega
set_option maxRecDepth 20000 in
set_option maxHeartbeats 4000000 in
theorem putS_any (F : Int) (BX : Nat) (v : Value) (l : List (BitVec 128 × BitVec 128)) (w : World) (hv : RwS w v l) (hl : l.length ≤ 1000000000) (hbx : w.cell? ⟨BX, 0, none⟩ = some (.int .i64 F)) :
    Calls Tryd.prog 62 #[v, .func (.func 96) #[] #[.pointer (some ⟨BX, 0, none⟩)]] w fun e w' => (∃ v', e = .returned v' ∧ w'.ownsRow w.heap.size 64 5 v' (psAll F [] l).length (rowS (psAll F [] l).reverse)) ∧ Below w.heap.size w w' := by
  obtain ⟨i0, hi, hz0, hz1, hz2⟩ := info_parts Tryd.infoS
  obtain ⟨ao, c, rfl, hv⟩ := hv
  have HV : Hid ((ao = none ∧ l = []) ∨ ∃ b off, ao = some ⟨b, off, none⟩ ∧ ∀ j u, (rowS l)[j]? = some u → w.cell? ⟨b, off + j, none⟩ = some u) := hv
  have HBd : Hid (∀ p ∈ l, BdS p) := fun _ _ => trivial
  have HBX := Hid.mk' hbx
  clear hv hbx
  go_enter Tryd.func62, Tryd.ntmps62
  go_wp2_with fail
  go_loopw [5, 13] (fun dv i wr => ∃ (k : Nat) (st : List (BitVec 128 × BitVec 128)), k ≤ l.length ∧ i = .int .i64 k ∧ Hid (st.length ≤ k) ∧ Hid (psAll F st (l.drop k) = psAll F [] l) ∧ Hid (∀ a ∈ st, BdS a) ∧ wr.ownsRow w.heap.size 64 5 dv st.length (rowS st.reverse) ∧ Below w.heap.size w wr) (fun _ i _ => l.length - (intOf i).toNat)
  case atStart => exact ⟨0, [], by omega, rfl, Nat.le_refl _, rfl, (fun a h => by cases h), World.ownsRow_nil _ _ _ _, Below.refl _ _⟩
  case round =>
    obtain ⟨k, st, hk, rfl, hst, hG, hB, hown, kB⟩ := hrel
    by_cases hlt : (k : Int) < (l.length : Int)
    · have hks : k < l.length := by omega
      rcases HV.out with ⟨-, h⟩ | ⟨b, off, rfl, hc⟩
      · rw [h] at hks; simp at hks
      · obtain ⟨x0, x1, x2, x3, x4⟩ := rws_cells hc k hks
        have x0 := keepc kB x0
        have x1 := keepc kB x1
        have x2 := keepc kB x2
        have x3 := keepc kB x3
        have x4 := keepc kB x4
        have HBp : Hid (BdS (l[k].1, l[k].2)) := HBd.out l[k] (List.getElem_mem hks)
        have hdr : Hid (l.drop k = (l[k].1, l[k].2) :: l.drop (k + 1)) := List.drop_eq_getElem_cons hks
        generalize l[k].1 = px at *
        generalize l[k].2 = pn at *
        go_wp2_with fail
        have hne0 : u5.ownBlock ≠ some wr.heap.size := fun e => by have := (hown.lt _ e).2; omega
        have HP : Hid (BdS (px, pn)) := HBp
        have kBr : Hid (Below w.heap.size w wr) := kB
        clear x0 x1 x2 x3 x4
        rename_i hK
        refine wp_scope_again 0 (fun a' W => ∃ (x8 x9 x10 x17 x18 x19 x20 x21 x22 x23 x24 x25 x26 x27 x28 x29 x30 x31 x32 x33 x34 x35 x36 x37 x38 x39 x40 dv : Value) (s : List (BitVec 128 × BitVec 128)) (q : BitVec 128 × BitVec 128), a' = { tmps := #[.slice (some ⟨b, off, none⟩) l.length c, .func (.func 96) #[] #[.pointer (some ⟨BX, 0, none⟩)], undef, undef, .slice none 0 0, dv, undef, .pointer (some ⟨wr.heap.size, 0, none⟩), x8, x9, x10, .slice (some ⟨b, off, none⟩) l.length c, .int .i64 (l.length : Int), .int .i64 (k : Int), .bool true, .pointer (some ⟨b, off + k * 5, none⟩), .agg #[.int .u64 (hI px), .int .u64 (lI px), .int .u64 (hI pn), .int .u64 (lI pn), .int .i64 1], x17, x18, x19, x20, x21, x22, x23, x24, x25, x26, x27, x28, x29, x30, x31, x32, x33, x34, x35, x36, x37, x38, x39, x40, u41, undef], defers := [] } ∧ W.ownsRow w.heap.size 64 5 dv s.length (rowS s.reverse) ∧ dv.ownBlock ≠ some wr.heap.size ∧ AtS W wr.heap.size q.1 q.2 1 ∧ Hid (psIn F s q = psIn F st (px, pn)) ∧ Hid (BdS q) ∧ Hid (∀ a ∈ s, BdS a) ∧ Hid (s.length ≤ st.length) ∧ Below w.heap.size w W) (fun a' _ => lenV (a'.tmps.getD 5 undef)) rfl ?first ?pass
        case first =>
          exact ⟨_, _, _, _, _, _, _, _, _, _, _, _, _, _, _, _, _, _, _, _, _, _, _, _, _, _, _, u5, st, (px, pn), rfl, hown.alloc _, hne0, ats_new wr wr.heap.size px pn 1 64 rfl, rfl, HP, hB, Nat.le_refl _, kB.alloc kB.size _⟩
        case pass =>
          rintro a' W ⟨x8, x9, x10, x17, x18, x19, x20, x21, x22, x23, x24, x25, x26, x27, x28, x29, x30, x31, x32, x33, x34, x35, x36, x37, x38, x39, x40, dv, s, q, rfl, hown, hne, hQ, hPI, hBq, hBs, hLe, kB⟩
          obtain ⟨qx, qn⟩ := q
          simp only at hQ
          cases s with
          | nil =>
            obtain ⟨ao', c', rfl⟩ : ∃ ao' c', dv = .slice ao' 0 c' := by
              rcases hown.2 with ⟨e, _⟩ | ⟨g, cap, cur, e, _⟩
              · exact ⟨_, _, e⟩
              · exact ⟨_, _, e⟩
            obtain ⟨q0, q1, q2, q3, q4, -, -, -, -, -⟩ := id hQ
            have hownB := kB
            have h63 : 0 + 1 ≤ maxLen := by unfold maxLen; omega
            have h47 : (0 + 1) * 40 ≤ 140737488355328 := by omega
            go_wp2_with (first | (
                at_builtin
                refine wpList_append_lies _ rfl _ _ 52 rfl w.heap.size 64 i0 (.agg #[.int .u64 0, .int .u64 0, .int .u64 0, .int .u64 0, .int .i64 0]) 5 40 Tryd.underlying52 hi hz0 hz1 hz2 rfl (by decide) _ _ _ rfl (hown.alloc _) ⟨W.heap.size, 0, none⟩ 1 1 [.int .u64 (hI qx), .int .u64 (lI qx), .int .u64 (hI qn), .int .u64 (lI qn), .int .i64 1] rfl rfl (newsS _ _ _ _ _ _ _) (fiveS _ _ _ _ _) (by decide) h63 h47 (by have := hownB.size; simp; omega) _ rfl ?_
                intro g4 cap4 w4 hown4 hgrow hat hlt4
                have kB4 : Below w.heap.size w w4 := (hownB.alloc hownB.size _).grown hgrow (hownB.alloc hownB.size _).size (fun z hz => (hown.lt z hz).1)
                have hrow4 : Hid (w4.ownsRow w.heap.size 64 5 (.slice (some ⟨g4, 0, none⟩) (0 + 1) cap4) (0 + 1) (rowS (([]).reverse ++ [(qx, qn)]))) := by
                  show World.ownsRow _ _ _ _ _ _ _
                  rw [rowS_one]
                  exact hown4
                clear hgrow hat hown4 hlt4 h63 h47 q0 q1 q2 q3 q4))
            have mk : IntKind.i64.wrap ((k : Int) + 1) = (k : Int) + 1 := by rw [IntKind.wrap_i64]; omega
            refine hK _ _ ?_
            go_wp2
            go_roundw
            case rel =>
              refine ⟨k + 1, (qx, qn) :: [], by omega, by go_num, ?_, ?_, ?_, ?_, kB4⟩
              · show _ ≤ _; have := hst.out; have := Nat.zero_le st.length; simp only [List.length_cons, List.length_nil]; omega
              · show psAll F ((qx, qn) :: []) (l.drop (k + 1)) = psAll F [] l
                rw [← hG.out, hdr.out]
                show _ = psAll F (psIn F st (px, pn)) (l.drop (k + 1))
                rw [← hPI.out, psIn]
              · intro z hz
                rcases List.mem_cons.mp hz with e | e
                · rw [e]; exact hBq.out
                · exact hBs.out z e
              · rw [List.reverse_cons]
                have := hrow4.out
                simpa using this
            case measure => simp [intOf]; omega
          | cons a s =>
            obtain ⟨ax, an⟩ := a
            obtain ⟨g, cap, rfl, -, -⟩ := hown.form (by simp)
            obtain ⟨n, HN⟩ : ∃ n, Hid (s.reverse.length = n) := ⟨_, rfl⟩
            have hlen : ((ax, an) :: s).length = n + 1 := by have := HN.out; simp at this; simp [this]
            have hrev : ((ax, an) :: s).reverse = s.reverse ++ [(ax, an)] := by simp
            rw [hlen, hrev] at hown
            rw [hlen]
            have HL : Hid (n + 1 ≤ st.length) := by show _ ≤ _; have := hLe.out; rw [hlen] at this; exact this
            have hnb : n ≤ 1000000000 := by have := HL.out; have := hst.out; omega
            clear hlen hrev
            have hcells := rows_last hown HN.out
            have hcap := owns_cap hown
            have ng : ¬ g = wr.heap.size := fun e => hne (by simp [Value.ownBlock, e])
            have hPU : PUS w wr.heap.size g n cap ax an qx qn (s.reverse ++ [(ax, an)]) W := ⟨hcells, hQ, hown, kB⟩
            have KU0 := fun w hb => bes_any F ax an qx qn BX w hb
            have m1 : IntKind.i64.wrap ((n : Int) + 1 - 1) = (n : Int) := by rw [IntKind.wrap_i64]; omega
            have m2 : IntKind.i64.wrap (n : Int) = (n : Int) := by rw [IntKind.wrap_i64]; omega
            have i1 : (0 : Int) ≤ (n : Int) := by omega
            have i2 : (n : Int) < (n : Int) + 1 := by omega
            obtain ⟨u, hu⟩ : ∃ u, u = besV F (ax, an) (qx, qn) := ⟨_, rfl⟩
            rw [← hu] at KU0
            cases u with
            | none =>
              have KU : ∀ w, w.cell? ⟨BX, 0, none⟩ = some (.int .i64 F) → Calls Tryd.prog 96 #[.agg #[.int .u64 (hI ax), .int .u64 (lI ax), .int .u64 (hI an), .int .u64 (lI an), .int .i64 1], .agg #[.int .u64 (hI qx), .int .u64 (lI qx), .int .u64 (hI qn), .int .u64 (lI qn), .int .i64 1], .pointer (some ⟨BX, 0, none⟩)] w fun e w' => e = .returned (.tuple #[.agg #[.int .u64 0, .int .u64 0, .int .u64 0, .int .u64 0, .int .i64 0], .bool false]) ∧ Below w.heap.size w w' := KU0
              clear KU0
              clear hown hcells hQ kB hne
              go_wp2_with fail
              refine two_region 12 10 11 (alOk (qpOk 12 10 (by decide) (fun N => by kernel_rfl) (by kernel_rfl) (by kernel_rfl) (by kernel_rfl) (by kernel_rfl)) (by decide) rfl rfl (by kernel_rfl)) (alOk (qpOk 12 11 (by decide) (fun N => by kernel_rfl) (by kernel_rfl) (by kernel_rfl) (by kernel_rfl) (by kernel_rfl)) (by decide) rfl rfl (by kernel_rfl)) (by decide) (by kernel_rfl) rfl (D := PUS w wr.heap.size g n cap ax an qx qn (s.reverse ++ [(ax, an)])) (C1 := fun N W => PUS w wr.heap.size g n cap ax an qx qn (s.reverse ++ [(ax, an)]) W ∧ AtS W N 0#128 0#128 0 ∧ w.heap.size ≤ N ∧ g < N ∧ wr.heap.size < N) (C2 := fun N W => PUS w wr.heap.size g n cap ax an qx qn (s.reverse ++ [(ax, an)]) W ∧ AtS W N (0#128) (0#128) 0 ∧ w.heap.size ≤ N ∧ g < N ∧ wr.heap.size < N) (obj := .cells #[.int .u64 0, .int .u64 0, .int .u64 0, .int .u64 0, .int .i64 0] 64) [some 23, some 24, some 25, some 26, some 27, some 28, some 29, some 22, some 30, some 31, some 9, none] (fun N => [.func (.func 96) #[] #[.pointer (some ⟨BX, 0, none⟩)], .slice (some ⟨g, 0, none⟩) (n + 1) cap, .int .i64 (n : Int), .pointer (some ⟨g, n * 5, none⟩), .agg #[.int .u64 (hI ax), .int .u64 (lI ax), .int .u64 (hI an), .int .u64 (lI an), .int .i64 1], .agg #[.int .u64 (hI qx), .int .u64 (lI qx), .int .u64 (hI qn), .int .u64 (lI qn), .int .i64 1], .tuple #[.agg #[.int .u64 (hI (0#128)), .int .u64 (lI (0#128)), .int .u64 (hI (0#128)), .int .u64 (lI (0#128)), .int .i64 0], .bool false], .tuple #[.agg #[.int .u64 (hI (0#128)), .int .u64 (lI (0#128)), .int .u64 (hI (0#128)), .int .u64 (lI (0#128)), .int .i64 0], .bool false], .agg #[.int .u64 (hI (0#128)), .int .u64 (lI (0#128)), .int .u64 (hI (0#128)), .int .u64 (lI (0#128)), .int .i64 0], .bool false, .pointer (some ⟨N, 0, none⟩), undef]) 9 [9, 30] (by kernel_rfl) (fun N => by kernel_rfl) rfl ?hA7 ?hAd7 (by kernel_rfl) ?hal7 ?hC7 ?hst7 hPU.drew ?walk7 ?fin7
              case hA7 => intro N; simp only [putAll, Act.put, List.setIfInBounds_toArray, List.set_cons_zero, List.set_cons_succ]; rfl
              case hAd7 => intro N; simp only [putAll, Act.put, List.setIfInBounds_toArray, List.set_cons_zero, List.set_cons_succ]; rfl
              case hal7 => intro W a _; go_simp
              case hC7 => intro W h; exact ⟨h.below (bl1 W _), ats_new0 W, h.2.2.2.size, h.lt, h.2.1.lt⟩
              case hst7 =>
                intro N W a' hC hr K Q' hK
                have e9 : a'.tmps[9]? = some (.pointer (some ⟨N, 0, none⟩)) := (hr 9 (by simp)).trans (by simp only [putAll, Act.put, List.setIfInBounds_toArray, List.set_cons_zero, List.set_cons_succ]; rfl)
                have e30 : a'.tmps[30]? = some (.agg #[.int .u64 (hI (0#128)), .int .u64 (lI (0#128)), .int .u64 (hI (0#128)), .int .u64 (lI (0#128)), .int .i64 0]) := (hr 30 (by simp)).trans (by simp only [putAll, Act.put, List.setIfInBounds_toArray, List.set_cons_zero, List.set_cons_succ]; rfl)
                obtain ⟨hE, hZ, hN1, hN2, hN3⟩ := hC
                obtain ⟨z0, z1, z2, z3, z4, z5, z6, z7, z8, z9⟩ := id hZ
                have hK' := hK _ ⟨hE.set (N := N) hN1 (by omega) (by omega) (.int .u64 (hI (0#128))) (.int .u64 (lI (0#128))) (.int .u64 (hI (0#128))) (.int .u64 (lI (0#128))) (.int .i64 0), hZ.set (0#128) (0#128) 0, hN1, hN2, hN3⟩
                unfold Oper.wp
                simp [execOp, e9, e30, go_sem, z0, z1, z2, z3, z4, z5, z6, z7, z8, z9, Oper.upon]
                exact hK'
              case walk7 =>
                intro N X hX
                have hXD : ∀ W, X W → PUS w wr.heap.size g n cap ax an qx qn (s.reverse ++ [(ax, an)]) W := by
                  rcases hX with rfl | rfl | rfl
                  · exact fun W h => h
                  · exact fun W h => h.1
                  · exact fun W h => h.1
                have hXb : ∀ W W', X W → Below W.heap.size W W' → X W' := by
                  rcases hX with rfl | rfl | rfl
                  · exact fun W W' h hb => h.below hb
                  · exact fun W W' h hb => ⟨h.1.below hb, h.2.1.below hb, h.2.2⟩
                  · exact fun W W' h hb => ⟨h.1.below hb, h.2.1.below hb, h.2.2⟩
                clear hX hPU
                dsimp only [rep, List.take, List.modify, List.modifyTailIdx, List.modifyTailIdx.go, List.modifyHead]
                refine q_run (v := .func (.func 96) #[] #[.pointer (some ⟨BX, 0, none⟩)]) (by rfl) ?_ ?_
                · (intro w1 hC; obtain ⟨⟨a0, a1, a2, a3, a4⟩, ⟨q0, q1, q2, q3, q4, -, -, -, -, -⟩, -, -⟩ := hXD w1 hC; clear hC; go_simp)
                simp only [Act.put, List.setIfInBounds_toArray, List.set_cons_zero, List.set_cons_succ]
                refine q_run (v := .slice (some ⟨g, 0, none⟩) (n + 1) cap) (by rfl) ?_ ?_
                · (intro w1 hC; obtain ⟨⟨a0, a1, a2, a3, a4⟩, ⟨q0, q1, q2, q3, q4, -, -, -, -, -⟩, -, -⟩ := hXD w1 hC; clear hC; go_simp)
                simp only [Act.put, List.setIfInBounds_toArray, List.set_cons_zero, List.set_cons_succ]
                refine q_run (v := .int .i64 (n : Int)) (by rfl) ?_ ?_
                · (intro w1 hC; obtain ⟨⟨a0, a1, a2, a3, a4⟩, ⟨q0, q1, q2, q3, q4, -, -, -, -, -⟩, -, -⟩ := hXD w1 hC; clear hC; go_simp)
                simp only [Act.put, List.setIfInBounds_toArray, List.set_cons_zero, List.set_cons_succ]
                refine q_run (v := .pointer (some ⟨g, n * 5, none⟩)) (by rfl) ?_ ?_
                · (intro w1 hC; obtain ⟨⟨a0, a1, a2, a3, a4⟩, ⟨q0, q1, q2, q3, q4, -, -, -, -, -⟩, -, -⟩ := hXD w1 hC; clear hC; go_simp)
                simp only [Act.put, List.setIfInBounds_toArray, List.set_cons_zero, List.set_cons_succ]
                refine q_run (v := .agg #[.int .u64 (hI ax), .int .u64 (lI ax), .int .u64 (hI an), .int .u64 (lI an), .int .i64 1]) (by rfl) ?_ ?_
                · (intro w1 hC; obtain ⟨⟨a0, a1, a2, a3, a4⟩, ⟨q0, q1, q2, q3, q4, -, -, -, -, -⟩, -, -⟩ := hXD w1 hC; clear hC; go_simp)
                simp only [Act.put, List.setIfInBounds_toArray, List.set_cons_zero, List.set_cons_succ]
                refine q_run (v := .agg #[.int .u64 (hI qx), .int .u64 (lI qx), .int .u64 (hI qn), .int .u64 (lI qn), .int .i64 1]) (by rfl) ?_ ?_
                · (intro w1 hC; obtain ⟨⟨a0, a1, a2, a3, a4⟩, ⟨q0, q1, q2, q3, q4, -, -, -, -, -⟩, -, -⟩ := hXD w1 hC; clear hC; go_simp)
                simp only [Act.put, List.setIfInBounds_toArray, List.set_cons_zero, List.set_cons_succ]
                refine q_call (v := .tuple #[.agg #[.int .u64 (hI (0#128)), .int .u64 (lI (0#128)), .int .u64 (hI (0#128)), .int .u64 (lI (0#128)), .int .i64 0], .bool false]) (f := 96) (args := #[.agg #[.int .u64 (hI ax), .int .u64 (lI ax), .int .u64 (hI an), .int .u64 (lI an), .int .i64 1], .agg #[.int .u64 (hI qx), .int .u64 (lI qx), .int .u64 (hI qn), .int .u64 (lI qn), .int .i64 1], .pointer (some ⟨BX, 0, none⟩)]) (by rfl) ?_ ?_ ?_
                · (intro w1 hC; clear hC; go_simp)
                · exact fun w1 hC => (KU w1 (keepc (hXD w1 hC).2.2.2 HBX.out)).mono fun e w' ⟨he, hb⟩ => ⟨he, hXb w1 _ hC hb⟩
                simp only [Act.put, List.setIfInBounds_toArray, List.set_cons_zero, List.set_cons_succ]
                refine q_run (v := .tuple #[.agg #[.int .u64 (hI (0#128)), .int .u64 (lI (0#128)), .int .u64 (hI (0#128)), .int .u64 (lI (0#128)), .int .i64 0], .bool false]) (by rfl) ?_ ?_
                · (intro w1 hC; obtain ⟨⟨a0, a1, a2, a3, a4⟩, ⟨q0, q1, q2, q3, q4, -, -, -, -, -⟩, -, -⟩ := hXD w1 hC; clear hC; go_simp)
                simp only [Act.put, List.setIfInBounds_toArray, List.set_cons_zero, List.set_cons_succ]
                refine q_run (v := .agg #[.int .u64 (hI (0#128)), .int .u64 (lI (0#128)), .int .u64 (hI (0#128)), .int .u64 (lI (0#128)), .int .i64 0]) (by rfl) ?_ ?_
                · (intro w1 hC; obtain ⟨⟨a0, a1, a2, a3, a4⟩, ⟨q0, q1, q2, q3, q4, -, -, -, -, -⟩, -, -⟩ := hXD w1 hC; clear hC; go_simp)
                simp only [Act.put, List.setIfInBounds_toArray, List.set_cons_zero, List.set_cons_succ]
                refine q_run (v := .bool false) (by rfl) ?_ ?_
                · (intro w1 hC; obtain ⟨⟨a0, a1, a2, a3, a4⟩, ⟨q0, q1, q2, q3, q4, -, -, -, -, -⟩, -, -⟩ := hXD w1 hC; clear hC; go_simp)
                simp only [Act.put, List.setIfInBounds_toArray, List.set_cons_zero, List.set_cons_succ]
                refine q_run (v := .pointer (some ⟨N, 0, none⟩)) (by rfl) ?_ ?_
                · (intro w1 hC; obtain ⟨⟨a0, a1, a2, a3, a4⟩, ⟨q0, q1, q2, q3, q4, -, -, -, -, -⟩, -, -⟩ := hXD w1 hC; clear hC; go_simp)
                simp only [Act.put, List.setIfInBounds_toArray, List.set_cons_zero, List.set_cons_succ]
                refine q_run (v := undef) (by rfl) ?_ ?_
                · (intro w1 hC; obtain ⟨⟨a0, a1, a2, a3, a4⟩, ⟨q0, q1, q2, q3, q4, -, -, -, -, -⟩, -, -⟩ := hXD w1 hC; clear hC; go_simp)
                simp only [Act.put, List.setIfInBounds_toArray, List.set_cons_zero, List.set_cons_succ]
                refine wpQuiet_nil ?_
                simp only [putAll, Act.put, List.setIfInBounds_toArray, List.set_cons_zero, List.set_cons_succ]
              case fin7 =>
                intro N W hC
                obtain ⟨hE, hR, hN1, hN2, hN3⟩ := hC
                simp only [putAll, Act.put, List.setIfInBounds_toArray, List.set_cons_zero, List.set_cons_succ]
                dsimp only [List.drop]
                clear hPU KU
                have hsn : s.length = n := by have := HN.out; simpa using this
                obtain ⟨-, hQ7, hown7, hown7B⟩ := id hE
                obtain ⟨q0, q1, q2, q3, q4, -, -, -, -, -⟩ := id hQ7
                have hown7 : W.ownsRow w.heap.size 64 5 (.slice (some ⟨g, 0, none⟩) (n + 1) cap) (n + 1) (rowS ((ax, an) :: s).reverse) := by rw [List.reverse_cons]; exact hown7
                have h63 : (n + 1) + 1 ≤ maxLen := by unfold maxLen; omega
                have h47 : ((n + 1) + 1) * 40 ≤ 140737488355328 := by omega
                go_wp2_with (first | (
                    at_builtin
                    refine wpList_append_lies _ rfl _ _ 52 rfl w.heap.size 64 i0 (.agg #[.int .u64 0, .int .u64 0, .int .u64 0, .int .u64 0, .int .i64 0]) 5 40 Tryd.underlying52 hi hz0 hz1 hz2 rfl (by decide) _ _ _ rfl (hown7.alloc _) ⟨W.heap.size, 0, none⟩ 1 1 [.int .u64 (hI qx), .int .u64 (lI qx), .int .u64 (hI qn), .int .u64 (lI qn), .int .i64 1] rfl rfl (newsS _ _ _ _ _ _ _) (fiveS _ _ _ _ _) (by decide) h63 h47 (by have := hown7B.size; simp; omega) _ rfl ?_
                    intro g4 cap4 w4 hown4 hgrow hat hlt4
                    have kB4 : Below w.heap.size w w4 := (hown7B.alloc hown7B.size _).grown hgrow (hown7B.alloc hown7B.size _).size (fun z hz => (hown7.lt z hz).1)
                    have hrow4 : Hid (w4.ownsRow w.heap.size 64 5 (.slice (some ⟨g4, 0, none⟩) ((n + 1) + 1) cap4) ((n + 1) + 1) (rowS (((ax, an) :: s).reverse ++ [(qx, qn)]))) := by
                      show World.ownsRow _ _ _ _ _ _ _
                      rw [rowS_one]
                      exact hown4
                    clear hgrow hat hown4 hlt4 h63 h47 q0 q1 q2 q3 q4))
                have mk : IntKind.i64.wrap ((k : Int) + 1) = (k : Int) + 1 := by rw [IntKind.wrap_i64]; omega
                refine hK _ _ ?_
                go_wp2
                go_roundw
                case rel =>
                  refine ⟨k + 1, (qx, qn) :: (ax, an) :: s, by omega, by go_num, ?_, ?_, ?_, ?_, kB4⟩
                  · show _ ≤ _; have := hst.out; have := HL.out; simp only [List.length_cons, List.length_nil]; omega
                  · show psAll F ((qx, qn) :: (ax, an) :: s) (l.drop (k + 1)) = psAll F [] l
                    rw [← hG.out, hdr.out]
                    show _ = psAll F (psIn F st (px, pn)) (l.drop (k + 1))
                    rw [← hPI.out, psIn_none hu.symm]
                  · intro z hz
                    rcases List.mem_cons.mp hz with e | e
                    · rw [e]; exact hBq.out
                    · exact hBs.out z e
                  · rw [List.reverse_cons]
                    have := hrow4.out
                    simpa [hsn] using this
                case measure => simp [intOf]; omega
            | some r =>
              obtain ⟨rx, rn⟩ := r
              have KU : ∀ w, w.cell? ⟨BX, 0, none⟩ = some (.int .i64 F) → Calls Tryd.prog 96 #[.agg #[.int .u64 (hI ax), .int .u64 (lI ax), .int .u64 (hI an), .int .u64 (lI an), .int .i64 1], .agg #[.int .u64 (hI qx), .int .u64 (lI qx), .int .u64 (hI qn), .int .u64 (lI qn), .int .i64 1], .pointer (some ⟨BX, 0, none⟩)] w fun e w' => e = .returned (.tuple #[.agg #[.int .u64 (hI rx), .int .u64 (lI rx), .int .u64 (hI rn), .int .u64 (lI rn), .int .i64 1], .bool true]) ∧ Below w.heap.size w w' := KU0
              clear KU0
              clear hown hcells hQ kB hne
              go_wp2_with fail
              refine two_region 12 10 11 (alOk (qpOk 12 10 (by decide) (fun N => by kernel_rfl) (by kernel_rfl) (by kernel_rfl) (by kernel_rfl) (by kernel_rfl)) (by decide) rfl rfl (by kernel_rfl)) (alOk (qpOk 12 11 (by decide) (fun N => by kernel_rfl) (by kernel_rfl) (by kernel_rfl) (by kernel_rfl) (by kernel_rfl)) (by decide) rfl rfl (by kernel_rfl)) (by decide) (by kernel_rfl) rfl (D := PUS w wr.heap.size g n cap ax an qx qn (s.reverse ++ [(ax, an)])) (C1 := fun N W => PUS w wr.heap.size g n cap ax an qx qn (s.reverse ++ [(ax, an)]) W ∧ AtS W N 0#128 0#128 0 ∧ w.heap.size ≤ N ∧ g < N ∧ wr.heap.size < N) (C2 := fun N W => PUS w wr.heap.size g n cap ax an qx qn (s.reverse ++ [(ax, an)]) W ∧ AtS W N rx rn 1 ∧ w.heap.size ≤ N ∧ g < N ∧ wr.heap.size < N) (obj := .cells #[.int .u64 0, .int .u64 0, .int .u64 0, .int .u64 0, .int .i64 0] 64) [some 23, some 24, some 25, some 26, some 27, some 28, some 29, some 22, some 30, some 31, some 9, none] (fun N => [.func (.func 96) #[] #[.pointer (some ⟨BX, 0, none⟩)], .slice (some ⟨g, 0, none⟩) (n + 1) cap, .int .i64 (n : Int), .pointer (some ⟨g, n * 5, none⟩), .agg #[.int .u64 (hI ax), .int .u64 (lI ax), .int .u64 (hI an), .int .u64 (lI an), .int .i64 1], .agg #[.int .u64 (hI qx), .int .u64 (lI qx), .int .u64 (hI qn), .int .u64 (lI qn), .int .i64 1], .tuple #[.agg #[.int .u64 (hI rx), .int .u64 (lI rx), .int .u64 (hI rn), .int .u64 (lI rn), .int .i64 1], .bool true], .tuple #[.agg #[.int .u64 (hI rx), .int .u64 (lI rx), .int .u64 (hI rn), .int .u64 (lI rn), .int .i64 1], .bool true], .agg #[.int .u64 (hI rx), .int .u64 (lI rx), .int .u64 (hI rn), .int .u64 (lI rn), .int .i64 1], .bool true, .pointer (some ⟨N, 0, none⟩), undef]) 9 [9, 30] (by kernel_rfl) (fun N => by kernel_rfl) rfl ?hA7 ?hAd7 (by kernel_rfl) ?hal7 ?hC7 ?hst7 hPU.drew ?walk7 ?fin7
              case hA7 => intro N; simp only [putAll, Act.put, List.setIfInBounds_toArray, List.set_cons_zero, List.set_cons_succ]; rfl
              case hAd7 => intro N; simp only [putAll, Act.put, List.setIfInBounds_toArray, List.set_cons_zero, List.set_cons_succ]; rfl
              case hal7 => intro W a _; go_simp
              case hC7 => intro W h; exact ⟨h.below (bl1 W _), ats_new0 W, h.2.2.2.size, h.lt, h.2.1.lt⟩
              case hst7 =>
                intro N W a' hC hr K Q' hK
                have e9 : a'.tmps[9]? = some (.pointer (some ⟨N, 0, none⟩)) := (hr 9 (by simp)).trans (by simp only [putAll, Act.put, List.setIfInBounds_toArray, List.set_cons_zero, List.set_cons_succ]; rfl)
                have e30 : a'.tmps[30]? = some (.agg #[.int .u64 (hI rx), .int .u64 (lI rx), .int .u64 (hI rn), .int .u64 (lI rn), .int .i64 1]) := (hr 30 (by simp)).trans (by simp only [putAll, Act.put, List.setIfInBounds_toArray, List.set_cons_zero, List.set_cons_succ]; rfl)
                obtain ⟨hE, hZ, hN1, hN2, hN3⟩ := hC
                obtain ⟨z0, z1, z2, z3, z4, z5, z6, z7, z8, z9⟩ := id hZ
                have hK' := hK _ ⟨hE.set (N := N) hN1 (by omega) (by omega) (.int .u64 (hI rx)) (.int .u64 (lI rx)) (.int .u64 (hI rn)) (.int .u64 (lI rn)) (.int .i64 1), hZ.set rx rn 1, hN1, hN2, hN3⟩
                unfold Oper.wp
                simp [execOp, e9, e30, go_sem, z0, z1, z2, z3, z4, z5, z6, z7, z8, z9, Oper.upon]
                exact hK'
              case walk7 =>
                intro N X hX
                have hXD : ∀ W, X W → PUS w wr.heap.size g n cap ax an qx qn (s.reverse ++ [(ax, an)]) W := by
                  rcases hX with rfl | rfl | rfl
                  · exact fun W h => h
                  · exact fun W h => h.1
                  · exact fun W h => h.1
                have hXb : ∀ W W', X W → Below W.heap.size W W' → X W' := by
                  rcases hX with rfl | rfl | rfl
                  · exact fun W W' h hb => h.below hb
                  · exact fun W W' h hb => ⟨h.1.below hb, h.2.1.below hb, h.2.2⟩
                  · exact fun W W' h hb => ⟨h.1.below hb, h.2.1.below hb, h.2.2⟩
                clear hX hPU
                dsimp only [rep, List.take, List.modify, List.modifyTailIdx, List.modifyTailIdx.go, List.modifyHead]
                refine q_run (v := .func (.func 96) #[] #[.pointer (some ⟨BX, 0, none⟩)]) (by rfl) ?_ ?_
                · (intro w1 hC; obtain ⟨⟨a0, a1, a2, a3, a4⟩, ⟨q0, q1, q2, q3, q4, -, -, -, -, -⟩, -, -⟩ := hXD w1 hC; clear hC; go_simp)
                simp only [Act.put, List.setIfInBounds_toArray, List.set_cons_zero, List.set_cons_succ]
                refine q_run (v := .slice (some ⟨g, 0, none⟩) (n + 1) cap) (by rfl) ?_ ?_
                · (intro w1 hC; obtain ⟨⟨a0, a1, a2, a3, a4⟩, ⟨q0, q1, q2, q3, q4, -, -, -, -, -⟩, -, -⟩ := hXD w1 hC; clear hC; go_simp)
                simp only [Act.put, List.setIfInBounds_toArray, List.set_cons_zero, List.set_cons_succ]
                refine q_run (v := .int .i64 (n : Int)) (by rfl) ?_ ?_
                · (intro w1 hC; obtain ⟨⟨a0, a1, a2, a3, a4⟩, ⟨q0, q1, q2, q3, q4, -, -, -, -, -⟩, -, -⟩ := hXD w1 hC; clear hC; go_simp)
                simp only [Act.put, List.setIfInBounds_toArray, List.set_cons_zero, List.set_cons_succ]
                refine q_run (v := .pointer (some ⟨g, n * 5, none⟩)) (by rfl) ?_ ?_
                · (intro w1 hC; obtain ⟨⟨a0, a1, a2, a3, a4⟩, ⟨q0, q1, q2, q3, q4, -, -, -, -, -⟩, -, -⟩ := hXD w1 hC; clear hC; go_simp)
                simp only [Act.put, List.setIfInBounds_toArray, List.set_cons_zero, List.set_cons_succ]
                refine q_run (v := .agg #[.int .u64 (hI ax), .int .u64 (lI ax), .int .u64 (hI an), .int .u64 (lI an), .int .i64 1]) (by rfl) ?_ ?_
                · (intro w1 hC; obtain ⟨⟨a0, a1, a2, a3, a4⟩, ⟨q0, q1, q2, q3, q4, -, -, -, -, -⟩, -, -⟩ := hXD w1 hC; clear hC; go_simp)
                simp only [Act.put, List.setIfInBounds_toArray, List.set_cons_zero, List.set_cons_succ]
                refine q_run (v := .agg #[.int .u64 (hI qx), .int .u64 (lI qx), .int .u64 (hI qn), .int .u64 (lI qn), .int .i64 1]) (by rfl) ?_ ?_
                · (intro w1 hC; obtain ⟨⟨a0, a1, a2, a3, a4⟩, ⟨q0, q1, q2, q3, q4, -, -, -, -, -⟩, -, -⟩ := hXD w1 hC; clear hC; go_simp)
                simp only [Act.put, List.setIfInBounds_toArray, List.set_cons_zero, List.set_cons_succ]
                refine q_call (v := .tuple #[.agg #[.int .u64 (hI rx), .int .u64 (lI rx), .int .u64 (hI rn), .int .u64 (lI rn), .int .i64 1], .bool true]) (f := 96) (args := #[.agg #[.int .u64 (hI ax), .int .u64 (lI ax), .int .u64 (hI an), .int .u64 (lI an), .int .i64 1], .agg #[.int .u64 (hI qx), .int .u64 (lI qx), .int .u64 (hI qn), .int .u64 (lI qn), .int .i64 1], .pointer (some ⟨BX, 0, none⟩)]) (by rfl) ?_ ?_ ?_
                · (intro w1 hC; clear hC; go_simp)
                · exact fun w1 hC => (KU w1 (keepc (hXD w1 hC).2.2.2 HBX.out)).mono fun e w' ⟨he, hb⟩ => ⟨he, hXb w1 _ hC hb⟩
                simp only [Act.put, List.setIfInBounds_toArray, List.set_cons_zero, List.set_cons_succ]
                refine q_run (v := .tuple #[.agg #[.int .u64 (hI rx), .int .u64 (lI rx), .int .u64 (hI rn), .int .u64 (lI rn), .int .i64 1], .bool true]) (by rfl) ?_ ?_
                · (intro w1 hC; obtain ⟨⟨a0, a1, a2, a3, a4⟩, ⟨q0, q1, q2, q3, q4, -, -, -, -, -⟩, -, -⟩ := hXD w1 hC; clear hC; go_simp)
                simp only [Act.put, List.setIfInBounds_toArray, List.set_cons_zero, List.set_cons_succ]
                refine q_run (v := .agg #[.int .u64 (hI rx), .int .u64 (lI rx), .int .u64 (hI rn), .int .u64 (lI rn), .int .i64 1]) (by rfl) ?_ ?_
                · (intro w1 hC; obtain ⟨⟨a0, a1, a2, a3, a4⟩, ⟨q0, q1, q2, q3, q4, -, -, -, -, -⟩, -, -⟩ := hXD w1 hC; clear hC; go_simp)
                simp only [Act.put, List.setIfInBounds_toArray, List.set_cons_zero, List.set_cons_succ]
                refine q_run (v := .bool true) (by rfl) ?_ ?_
                · (intro w1 hC; obtain ⟨⟨a0, a1, a2, a3, a4⟩, ⟨q0, q1, q2, q3, q4, -, -, -, -, -⟩, -, -⟩ := hXD w1 hC; clear hC; go_simp)
                simp only [Act.put, List.setIfInBounds_toArray, List.set_cons_zero, List.set_cons_succ]
                refine q_run (v := .pointer (some ⟨N, 0, none⟩)) (by rfl) ?_ ?_
                · (intro w1 hC; obtain ⟨⟨a0, a1, a2, a3, a4⟩, ⟨q0, q1, q2, q3, q4, -, -, -, -, -⟩, -, -⟩ := hXD w1 hC; clear hC; go_simp)
                simp only [Act.put, List.setIfInBounds_toArray, List.set_cons_zero, List.set_cons_succ]
                refine q_run (v := undef) (by rfl) ?_ ?_
                · (intro w1 hC; obtain ⟨⟨a0, a1, a2, a3, a4⟩, ⟨q0, q1, q2, q3, q4, -, -, -, -, -⟩, -, -⟩ := hXD w1 hC; clear hC; go_simp)
                simp only [Act.put, List.setIfInBounds_toArray, List.set_cons_zero, List.set_cons_succ]
                refine wpQuiet_nil ?_
                simp only [putAll, Act.put, List.setIfInBounds_toArray, List.set_cons_zero, List.set_cons_succ]
              case fin7 =>
                intro N W hC
                obtain ⟨hE, hR, hN1, hN2, hN3⟩ := hC
                simp only [putAll, Act.put, List.setIfInBounds_toArray, List.set_cons_zero, List.set_cons_succ]
                dsimp only [List.drop]
                clear hPU KU
                obtain ⟨r0, r1, r2, r3, r4, -, -, -, -, -⟩ := id hR
                obtain ⟨-, ⟨q0, q1, q2, q3, q4, q5, q6, q7, q8, q9⟩, -, -⟩ := id hE
                have nN : ¬ N = wr.heap.size := by omega
                have i3 : (n : Int) ≤ (cap : Int) := by omega
                have i4 : n ≤ cap := by omega
                go_wp2_with fail
                refine qp_region2 5 (qpOk 5 5 (by decide) (fun N => by kernel_rfl) (by kernel_rfl) (by kernel_rfl) (by kernel_rfl) (by kernel_rfl)) (C := fun W => PUS w wr.heap.size g n cap ax an qx qn (s.reverse ++ [(ax, an)]) W ∧ AtS W N rx rn 1) [some 33, some 34, some 35, some 36, some 5] [.slice (some ⟨g, 0, none⟩) (n + 1) cap, .int .i64 (n : Int), .slice (some ⟨g, 0, none⟩) n cap, .agg #[.int .u64 (hI rx), .int .u64 (lI rx), .int .u64 (hI rn), .int .u64 (lI rn), .int .i64 1], .slice (some ⟨g, 0, none⟩) n cap] (by kernel_rfl) ⟨hE.drew, hR⟩ ?walk9 ?fin9
                case walk9 =>
                  dsimp only [List.take]
                  refine q_run (v := .slice (some ⟨g, 0, none⟩) (n + 1) cap) (by rfl) ?_ ?_
                  · (intro w1 hC; obtain ⟨-, ⟨r0, r1, r2, r3, r4, -, -, -, -, -⟩⟩ := hC; go_simp; first | done | (simp; done) | (simp; omega) | omega | (intro hx; omega))
                  simp only [Act.put, List.setIfInBounds_toArray, List.set_cons_zero, List.set_cons_succ]
                  refine q_run (v := .int .i64 (n : Int)) (by rfl) ?_ ?_
                  · (intro w1 hC; obtain ⟨-, ⟨r0, r1, r2, r3, r4, -, -, -, -, -⟩⟩ := hC; go_simp; first | done | (simp; done) | (simp; omega) | omega | (intro hx; omega))
                  simp only [Act.put, List.setIfInBounds_toArray, List.set_cons_zero, List.set_cons_succ]
                  refine q_run (v := .slice (some ⟨g, 0, none⟩) n cap) (by rfl) ?_ ?_
                  · (intro w1 hC; obtain ⟨-, ⟨r0, r1, r2, r3, r4, -, -, -, -, -⟩⟩ := hC; go_simp; first | done | (simp; done) | (simp; omega) | omega | (intro hx; omega))
                  simp only [Act.put, List.setIfInBounds_toArray, List.set_cons_zero, List.set_cons_succ]
                  refine q_run (v := .agg #[.int .u64 (hI rx), .int .u64 (lI rx), .int .u64 (hI rn), .int .u64 (lI rn), .int .i64 1]) (by rfl) ?_ ?_
                  · (intro w1 hC; obtain ⟨-, ⟨r0, r1, r2, r3, r4, -, -, -, -, -⟩⟩ := hC; go_simp; first | done | (simp; done) | (simp; omega) | omega | (intro hx; omega))
                  simp only [Act.put, List.setIfInBounds_toArray, List.set_cons_zero, List.set_cons_succ]
                  refine q_run (v := .slice (some ⟨g, 0, none⟩) n cap) (by rfl) ?_ ?_
                  · (intro w1 hC; obtain ⟨-, ⟨r0, r1, r2, r3, r4, -, -, -, -, -⟩⟩ := hC; go_simp; first | done | (simp; done) | (simp; omega) | omega | (intro hx; omega))
                  simp only [Act.put, List.setIfInBounds_toArray, List.set_cons_zero, List.set_cons_succ]
                  refine wpQuiet_nil ?_
                  simp only [putAll, Act.put, List.setIfInBounds_toArray, List.set_cons_zero, List.set_cons_succ]
                case fin9 =>
                  intro W9 hC
                  obtain ⟨hE9, -⟩ := hC
                  obtain ⟨-, hQ9, hown9, kB9⟩ := hE9
                  obtain ⟨q0, q1, q2, q3, q4, q5, q6, q7, q8, q9⟩ := id hQ9
                  simp only [putAll, Act.put, List.setIfInBounds_toArray, List.set_cons_zero, List.set_cons_succ]
                  dsimp only [List.drop]
                  have hown10 := owns_cut hown9 HN.out
                  have h10 := own_set5 hown10 wr.heap.size (.int .u64 (hI rx)) (.int .u64 (lI rx)) (.int .u64 (hI rn)) (.int .u64 (lI rn)) (.int .i64 1) (by simp [Value.ownBlock]; exact ng)
                  have hQ10 := hQ9.set rx rn 1
                  have kB10 := bset5 kB9 (show w.heap.size ≤ wr.heap.size from kBr.out.size) (.int .u64 (hI rx)) (.int .u64 (lI rx)) (.int .u64 (hI rn)) (.int .u64 (lI rn)) (.int .i64 1)
                  have hown10 : Hid (World.ownsRow _ _ _ _ _ _ _) := h10
                  clear hown9 h10
                  go_wp2
                  go_step3
                  refine ⟨rfl, ⟨_, _, _, _, _, _, _, _, _, _, _, _, _, _, _, _, _, _, _, _, _, _, _, _, _, _, _, .slice (some ⟨g, 0, none⟩) n cap, s, (rx, rn), rfl, ?_, ?_, hQ10, ?_, ?_, ?_, ?_, kB10⟩, ?_⟩
                  · have := HN.out; simp at this; rw [this]; exact hown10.out
                  · simp [Value.ownBlock]; exact ng
                  · show psIn F s (rx, rn) = _
                    rw [← hPI.out, psIn_some hu.symm]
                  · exact trivial
                  · exact fun c hc => hBs.out c (List.mem_cons_of_mem _ hc)
                  · show s.length ≤ _; have := HN.out; simp at this; have := HL.out; omega
                  · simp [lenV]
    · have hd : decide ((k : Int) < (l.length : Int)) = false := by simpa using hlt
      have HE : Hid (psAll F [] l = st) := by
        show _ = _
        rw [← hG.out, List.drop_eq_nil_of_le (by omega)]; rfl
      have hown : Hid (World.ownsRow _ _ _ _ _ _ _) := hown
      go_wp2
      go_ret
      refine ⟨⟨_, rfl, ?_⟩, kB⟩
      rw [HE.out]
      exact hown.out
end Go.Proofs.YtkgfeegcdohkdaaDoor
