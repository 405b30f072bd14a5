/-
  Part 6 of the proof: 3 texts, one behind the other.
-/
import Derived.Test.YtiachojhnbicaaaDoorPart5
import Derived.Test.YtiachojhnbicaaaDoorPart2
import Derived.ArgAppend
import Derived.Test.YtiachojhnbicaaaDoorPart1
import Derived.Test.YtiachojhnbicaaaDoorPart3
namespace Go.Proofs.YtiachojhnbicaaaDoor
open Go.RowKit Go.Shelf
set_option linter.unusedSimpArgs false
set_option linter.unusedVariables false
attribute [local go_sem] Oper.semAt_some

set_option maxRecDepth 100000 in
set_option maxHeartbeats 4000000 in
theorem isWide21 (v : Value) (l : List Int) (w : World) (hv : RwX cI w v l) (hl : l.length ≤ 1000) (hx : ∀ z ∈ l, 0 ≤ z ∧ z ≤ 4294967295) :
    Calls Tryd.prog 32 #[v] w fun e w' => e = .returned (.bool false) ∧ Below w.heap.size w w' := by
  obtain ⟨ao, c, hvf, hc, hr⟩ := id hv
  subst hvf
  have HT := hid13 hv
  have HB : Hid (Below w.heap.size w w) := Below.refl _ _
  have HX := hid13 hx
  have HL := hid13 hl
  clear hv hl hx hr hc
  go_enter Tryd.func32, Tryd.ntmps32
  go_wp2
  go_loopg [7] l.length (fun g x wr => ∃ (k : Nat), k + g = l.length ∧ x = .int .i64 (k : Int) ∧ Hid (RwX cI wr (.slice ao l.length c) l ∧ Below w.heap.size w wr))
  case atStart => exact ⟨0, by omega, rfl, ⟨HT.out, HB.out⟩⟩
  case round =>
    clear HT HB
    obtain ⟨k, hk, rfl, HW⟩ := hrel
    by_cases hlt : k < l.length
    · have l1 : (k : Int) < (l.length : Int) := by omega
      obtain ⟨x, hx⟩ : ∃ x, l[k]? = some x := ⟨l[k], by simp [hlt]⟩
      obtain ⟨b1, f1, hao, r0⟩ : ∃ b off, ao = some ⟨b, off, none⟩ ∧ wr.cell? ⟨b, off + k, none⟩ = some (.int .i64 x) := by
        obtain ⟨ao', c', e, hc, hr⟩ := HW.out.1
        injection e with e1 e2 e3
        subst e1
        rcases hr with h | ⟨b, off, h1, h2⟩
        · rw [h] at hlt; simp at hlt
        · exact ⟨b, off, h1, h2 k x hx⟩
      subst hao
      have hxb := HX.out x (List.mem_of_getElem? hx)
      have n0 : 0 ≤ x := hxb.1
      have n1 : ¬ 4294967295 < x := by omega
      have wu : IntKind.u64.wrap x = x := by rw [IntKind.wrap_u64]; omega
      have wk : IntKind.i64.wrap ((k : Int) + 1) = (k : Int) + 1 := by rw [IntKind.wrap_i64]; have := HL.out; omega
      have HK : Hid (k < l.length ∧ k + gk = l.length) := ⟨hlt, hk⟩
      clear hx hlt hk hxb
      go_wp2
      go_roundg (gk - 1)
      case measure => have := HK.out; omega
      case rel => exact ⟨k + 1, by have := HK.out; omega, rfl, HW⟩
    · have l1 : ¬ (k : Int) < (l.length : Int) := by omega
      clear hlt hk
      go_wp2
      go_ret
      exact ⟨rfl, HW.out.2⟩
theorem lit_rwx21 {α : Type} {f : α → Value} (w : World) (cs : Array Value) (T : TypeId) (fr : Nat × Nat) (l : List α) (h : cs.toList = l.map f) : RwX f (w.alloc (.cells cs T fr)) (.slice (some ⟨w.heap.size, 0, none⟩) l.length l.length) l := by
  refine ⟨_, _, rfl, Nat.le_refl _, .inr ⟨w.heap.size, 0, rfl, fun j x hj => ?_⟩⟩
  have e : (w.alloc (.cells cs T fr)).heap[w.heap.size]? = some (.cells cs T fr) := by
    show (w.heap.push _)[w.heap.size]? = _
    simp
  have hc : cs[j]? = some (f x) := by
    rw [← Array.getElem?_toList, h, List.getElem?_map, hj]; rfl
  rw [Nat.zero_add]
  rw [cell_of_row _ _ _ _ _ _ e]; exact hc
theorem len_le_wt21 {L : List Pt} {k : Nat} {p : Pt} (h : L[k]? = some p) : p.x.length ≤ wt21 L := by
  have h1 := wt21_take h
  have h2 := wt21_le (L := L) (k + 1)
  omega
set_option maxRecDepth 100000 in
set_option maxHeartbeats 8000000 in
theorem mayBe21 (n : Nat) (v : Value) (L : List Pt) (w : World) (hn : n < 4294967296) (hv : PtR21 w v L) (hl : L.length < 4294967296) (hw : wt21 L < 4294967296) :
    Calls Tryd.prog 21 #[.int .i64 (n : Int), v] w fun e w' => e = .returned (.int .i64 (if fitB n L then 0 else 33)) ∧ Below w.heap.size w w' := by
  obtain ⟨ao, c, hvf, -⟩ := id hv
  subst hvf
  have K1 := fit21 (n : Int) (.slice ao L.length c) L w (by omega) (by omega) hv (by omega)
  have HT := hid13 hv
  have HL : Hid (n < 4294967296 ∧ L.length < 4294967296 ∧ wt21 L < 4294967296) := ⟨hn, hl, hw⟩
  clear hv hl hn hw
  cases hfb : fitB (n : Int) L with
  | false =>
    rw [hfb] at K1
    simp only [Bool.false_eq_true, if_false]
    clear hfb
    go_enter Tryd.func21, Tryd.ntmps21
    go_wp2_with fail
    refine K1.mono ?_
    rintro e w1 ⟨rfl, hb⟩
    have HB1 := hid13 hb
    clear hb K1
    go_wp2
    go_ret
    exact ⟨rfl, HB1.out⟩
  | true =>
    have HF : Hid (fitB (n : Int) L = true) := hfb
    rw [hfb] at K1
    simp only [if_true]
    clear hfb
    go_enter Tryd.func21, Tryd.ntmps21
    go_wp2_with fail
    refine K1.mono ?_
    rintro e w1 ⟨rfl, hb⟩
    have HB1 := hid13 hb
    clear hb K1
    have q2 := bl1 w1 (.cells #[.int .i64 (n : Int), .int .i64 (L.length : Int)] 3)
    have r2 := lit_rwx21 (f := cI) w1 #[.int .i64 (n : Int), .int .i64 (L.length : Int)] 3 (0, 0) [(n : Int), (L.length : Int)] rfl
    have K2 := isWide21 _ _ _ r2 (by show 2 ≤ 1000; decide) (by
      intro z hz
      have := HL.out
      simp only [List.mem_cons, List.mem_nil_iff, or_false] at hz
      rcases hz with rfl | rfl <;> omega)
    have HB2 : Hid (Below w.heap.size w _) := hid13 (keepb q2 HB1.out)
    clear q2 r2 HB1
    go_wp2_with fail
    refine K2.mono ?_
    rintro e w2 ⟨rfl, hb⟩
    have HB3 : Hid (Below w.heap.size w w2) := hid13 (keepb hb HB2.out)
    clear hb K2 HB2
    go_wp2
    go_loopg [18] L.length (fun g x wr => ∃ (k : Nat) (m : Int), k + g = L.length ∧ x = .int .i64 (k : Int) ∧ Hid (ftS n (L.take k) = some m) ∧ Hid (Below w.heap.size w wr))
    case atStart => exact ⟨0, n, by omega, rfl, rfl, HB3.out⟩
    case round =>
      clear HB3
      obtain ⟨k, m, hk, rfl, HM, HB⟩ := hrel
      by_cases hlt : k < L.length
      · have l1 : (k : Int) < (L.length : Int) := by omega
        obtain ⟨p, hp⟩ : ∃ p, L[k]? = some p := ⟨L[k], by simp [hlt]⟩
        obtain ⟨b1, f1, xo, xc, hao, r0, r1, r2, -, -⟩ := ptr_at (HT.out.below HB.out) hp
        subst hao
        obtain ⟨hok, hnx⟩ := ftS_ok HF.out hp HM.out
        have hmb := ftS_bd (Int.natCast_nonneg n) _ _ HM.out
        have hxl := len_le_wt21 hp
        have HK : Hid (k < L.length ∧ k + gk = L.length ∧ ftS n (L.take (k + 1)) = some (m - p.k - p.d)) := ⟨hlt, hk, hnx⟩
        have HZ : Hid (∀ z ∈ [p.k, p.d, (p.x.length : Int)], 0 ≤ z ∧ z ≤ 4294967295) := by
          intro z hz
          have := HL.out
          obtain ⟨o1, o2, o3, o4⟩ := hok
          simp only [List.mem_cons, List.mem_nil_iff, or_false] at hz
          rcases hz with rfl | rfl | rfl <;> omega
        have wk : IntKind.i64.wrap ((k : Int) + 1) = (k : Int) + 1 := by rw [IntKind.wrap_i64]; have := HL.out; omega
        have q1 := bl1 wr (.cells #[.int .i64 p.k, .int .i64 p.d, .slice xo p.x.length xc] 34)
        have HB1 : Hid (Below w.heap.size w _) := hid13 (keepb q1 HB.out)
        clear hok hnx hp hlt hk hmb hxl q1 HM HB
        have q2 := bl1 (wr.alloc (.cells #[.int .i64 p.k, .int .i64 p.d, .slice xo p.x.length xc] 34)) (.cells #[.int .i64 p.k, .int .i64 p.d, .int .i64 (p.x.length : Int)] 3)
        have r4 := lit_rwx21 (f := cI) (wr.alloc (.cells #[.int .i64 p.k, .int .i64 p.d, .slice xo p.x.length xc] 34)) #[.int .i64 p.k, .int .i64 p.d, .int .i64 (p.x.length : Int)] 3 (0, 0) [p.k, p.d, (p.x.length : Int)] rfl
        have K2 := isWide21 _ _ _ r4 (by show 3 ≤ 1000; decide) HZ.out
        rw [show (wr.alloc (.cells #[.int .i64 p.k, .int .i64 p.d, .slice xo p.x.length xc] 34)).heap.size = wr.heap.size + 1 by simp] at K2
        have HB2 : Hid (Below w.heap.size w _) := hid13 (keepb q2 HB1.out)
        clear q2 r4 HB1 HZ
        go_wp2_with fail
        refine K2.mono ?_
        rintro e w4 ⟨rfl, hb⟩
        have HB4 : Hid (Below w.heap.size w w4) := hid13 (keepb hb HB2.out)
        clear hb K2 HB2 r0 r1 r2
        go_wp2
        go_roundg (gk - 1)
        case measure => have := HK.out; omega
        case rel => exact ⟨k + 1, m - p.k - p.d, by have := HK.out; omega, rfl, HK.out.2.2, HB4⟩
      · have l1 : ¬ (k : Int) < (L.length : Int) := by omega
        clear hlt hk
        go_wp2
        go_ret
        exact ⟨rfl, HB.out⟩
def cN21 (n : Nat) : Value := .int .u32 (n : Int)
def LdR (base : Nat) (w : World) (v : Value) (l : List Nat) : Prop := w.ownsRow base 5 1 v l.length (l.map cB) ∨ ((∃ ad : Addr, v = .slice (some ad) l.length l.length) ∧ RowA w 1 v l.length (l.map cB))
def KT21 (w w' : World) : Prop := ∀ (z : Nat) (cs : Array Value) (T : TypeId) (fr : Nat × Nat), 5 ≠ T → w.heap[z]? = some (.cells cs T fr) → w'.heap[z]? = some (.cells cs T fr)
theorem KT21.refl (w : World) : KT21 w w := fun _ _ _ _ _ h => h
theorem KT21.trans {w w' w'' : World} (h : KT21 w w') (h' : KT21 w' w'') : KT21 w w'' := fun z cs T fr hT hz => h' z cs T fr hT (h z cs T fr hT hz)
theorem KT21.of_below {w w' : World} (h : Below w.heap.size w w') : KT21 w w' := fun z cs T fr _ hz => (h.block _ (lt_16 hz)).trans hz
theorem KT21.grown {w w' : World} {base e size n : Nat} {v : Value} {xs : List Value} (ho : w.ownsRow base 5 size v n xs) (h : w.grownBy w' v.ownBlock) : KT21 w w' := fun z cs T fr hT hz => (h.block _ (lt_16 hz) (fun e => own_not18 ho hz hT e.symm)).trans hz
theorem nil_rowA21 (w : World) : RowA w 1 (.slice none 0 0) ([] : List Nat).length (([] : List Nat).map cB) := ⟨rfl, none, 0, rfl, Nat.le_refl _, .inl ⟨rfl, rfl, rfl⟩⟩
theorem by4_len21 (n : Nat) : (by4 n).length = 4 := rfl
theorem flat4_len21 : ∀ (ns : List Nat), (ns.flatMap by4).length = 4 * ns.length
  | [] => rfl
  | n :: ns => by rw [List.flatMap_cons, List.length_append, flat4_len21 ns, by4_len21, List.length_cons]; omega
def ld21 (l ns : List Nat) : List Nat := l ++ ns.flatMap by4
set_option maxRecDepth 100000 in
set_option maxHeartbeats 8000000 in
theorem laid21 (base : Nat) (v : Value) (l : List Nat) (NB : Nat) (cs : Array Value) (ns : List Nat) (w : World) (hv : LdR base w v l) (hbs : base ≤ w.heap.size) (hN : w.heap[NB]? = some (.cells cs 46)) (hcs : cs.toList = ns.map cN21) (hn : ns.length ≤ 1000) (hx : ∀ n ∈ ns, n < 4294967296) (hl : l.length ≤ 140737480000000) :
    Calls Tryd.prog 22 #[v, .slice (some ⟨NB, 0, none⟩) ns.length ns.length] w fun e w' => ∃ v', e = .returned v' ∧ LdR base w' v' (ld21 l ns) ∧ (0 < ns.length → w'.ownsRow base 5 1 v' (ld21 l ns).length ((ld21 l ns).map cB)) ∧ Below base w w' ∧ KT21 w w' := by
  obtain ⟨i0, ji, jz0, jz1, jz2⟩ := info13 Tryd.infoB13
  have HV := hid13 hv
  have HN : Hid (w.heap[NB]? = some (.cells cs 46) ∧ cs.toList = ns.map cN21) := ⟨hN, hcs⟩
  have HL : Hid (ns.length ≤ 1000 ∧ l.length ≤ 140737480000000 ∧ base ≤ w.heap.size) := ⟨hn, hl, hbs⟩
  have HX := hid13 hx
  obtain ⟨vo, vc, hvf⟩ : ∃ o c, v = .slice o l.length c := by
    rcases hv with h | ⟨⟨ad, h⟩, -⟩
    · exact own_form h
    · exact ⟨_, _, h⟩
  subst hvf
  clear hv hN hcs hn hx hl hbs
  go_enter Tryd.func22, Tryd.ntmps22
  go_wp2
  go_loopg [0, 9] ns.length (fun g vr x wr => ∃ (k : Nat) (cur : List Nat) (ro : Option Addr) (rc : Nat), k + g = ns.length ∧ vr = .slice ro cur.length rc ∧ x = .int .i64 (k : Int) ∧ Hid (cur = l ++ (ns.take k).flatMap by4) ∧ Hid (LdR base wr (.slice ro cur.length rc) cur) ∧ Hid (0 < k → wr.ownsRow base 5 1 (.slice ro cur.length rc) cur.length (cur.map cB)) ∧ Hid (Below base w wr ∧ KT21 w wr))
  case atStart => exact ⟨0, l, vo, vc, by omega, rfl, rfl, by show _ = _; simp, HV.out, fun h => absurd h (Nat.lt_irrefl _), Below.refl _ _, KT21.refl _⟩
  case round =>
    clear HV
    obtain ⟨k, cur, ro, rc, hk, rfl, rfl, HC, HD, HO, HB⟩ := hrel
    by_cases hlt : k < ns.length
    rotate_left 1
    · have l1 : ¬ (k : Int) < (ns.length : Int) := by omega
      have HE : Hid (cur = ld21 l ns ∧ (0 < ns.length → 0 < k)) := by
        refine ⟨?_, fun h => ?_⟩
        · have := HC.out
          rw [List.take_of_length_le (by omega)] at this
          exact this
        · omega
      clear hlt hk
      go_wp2
      go_ret
      exact ⟨_, rfl, by rw [← HE.out.1]; exact HD.out, fun h => by rw [← HE.out.1]; exact HO.out (HE.out.2 h), HB.out⟩
    have l1 : (k : Int) < (ns.length : Int) := by omega
    obtain ⟨n, hn⟩ : ∃ n, ns[k]? = some n := ⟨ns[k], by simp [hlt]⟩
    have hcell : wr.heap[NB]? = some (.cells cs 46) := HB.out.2 _ _ _ _ (by decide) HN.out.1
    have r0 : wr.cell? ⟨NB, k, none⟩ = some (.int .u32 (n : Int)) := by
      rw [cell_of_row _ _ _ _ _ _ hcell, ← Array.getElem?_toList, HN.out.2, List.getElem?_map, hn]; rfl
    have hn32 := HX.out n (List.mem_of_getElem? hn)
    have hcl : cur.length = l.length + 4 * k := by rw [HC.out, List.length_append, flat4_len21, List.length_take]; omega
    have wk : IntKind.i64.wrap ((k : Int) + 1) = (k : Int) + 1 := by rw [IntKind.wrap_i64]; have := HL.out; omega
    have HK : Hid (k < ns.length ∧ k + gk = ns.length ∧ cur ++ by4 n = l ++ (ns.take (k + 1)).flatMap by4 ∧ cur.length ≤ 140737480004000) := by
      refine ⟨hlt, hk, ?_, by have := HL.out; omega⟩
      rw [HC.out, List.take_add_one, hn, List.flatMap_append]
      simp
    have K1 := put32_any (.slice none 0 0) [] n wr (nil_rowA21 wr) (by decide) hn32
    clear hcell hn hn32 hlt hk hcl
    go_wp2_with fail
    refine K1.mono ?_
    rintro e w2 ⟨v2, rfl, ho2, hb2⟩
    rw [List.nil_append] at ho2
    have HB2 : Hid (Below base w w2 ∧ KT21 w w2) := ⟨HB.out.1.trans (hb2.mono (Nat.le_trans HL.out.2.2 HB.out.1.size)), HB.out.2.trans (KT21.of_below hb2)⟩
    have hs2 : base ≤ w2.heap.size := Nat.le_trans HL.out.2.2 HB2.out.1.size
    have hA2 := own_rowA ho2
    have HD2 : Hid (LdR base w2 (.slice ro cur.length rc) cur) := by
      rcases HD.out with h | ⟨h1, h2⟩
      · exact .inl (own_b13 hb2 h)
      · exact .inr ⟨h1, h2.below hb2⟩
    have hA2' : ∃ ad c, v2 = .slice (some ad) 4 c ∧ ∀ j u, ((by4 n).map cB)[j]? = some u → w2.cell? (ad.add j) = some u := by
      obtain ⟨-, xo, xc, h1, -, h3⟩ := hA2
      rcases h3 with ⟨-, -, h3⟩ | ⟨ad, rfl, h3⟩
      · cases h3
      · exact ⟨ad, xc, h1, h3⟩
    obtain ⟨ad, xc, rfl, hcA⟩ := hA2'
    clear K1 hb2 ho2 HB HD HO r0
    rcases HD2.out with hown | ⟨⟨fd, hf⟩, hfA⟩
    · go_wp2_with (at_builtin; apply stopHere9)
      refine (show wpList _ _ _ _ _ _ from ?_)
      refine wpList_append_rowA rfl _ _ 22 rfl base 5 i0 (.int .u8 0) 1 1 Tryd.underlying22 ji jz0 jz1 jz2 rfl (by decide) _ cur.length (cur.map cB) rfl hown _ 4 ((by4 n).map cB) rfl hA2 (cB_one _) (by have := HK.out; unfold maxLen; omega) (by have := HK.out; omega) hs2 ?_
      intro ao4 c4 w4 hO4 hg4
      have HB4 : Hid (Below base w w4 ∧ KT21 w w4) := ⟨HB2.out.1.grown hg4 hs2 (fun z hz => (hown.lt z hz).1), HB2.out.2.trans (KT21.grown (e := 0) hown hg4)⟩
      obtain ⟨c2, hc2⟩ : ∃ c2, c2 = cur ++ by4 n := ⟨_, rfl⟩
      have hl2 : cur.length + 4 = c2.length := by rw [hc2, List.length_append, by4_len21]
      rw [← List.map_append, ← hc2, hl2] at hO4
      rw [hl2]
      have HO4 := hid13 hO4
      have HC2 : Hid (c2 = l ++ (ns.take (k + 1)).flatMap by4) := by rw [hc2]; exact HK.out.2.2.1
      clear hO4 hg4 hown hA2 hcA HD2 HB2 hc2 hl2 hs2
      go_wp2
      go_roundg (gk - 1)
      case measure => have := HK.out; omega
      case rel => exact ⟨k + 1, c2, ao4, c4, by have := HK.out; omega, rfl, rfl, HC2, .inl HO4.out, fun _ => HO4.out, HB4⟩
    · injection hf with hf1 hf2 hf3
      subst hf1 hf3
      have holds : ∀ j u, (cur.map cB)[j]? = some u → w2.cell? (fd.add j) = some u := by
        obtain ⟨-, xo, xc, h1, -, h3⟩ := hfA
        injection h1 with h1 h4 h5
        subst h1
        rcases h3 with ⟨h3, -, -⟩ | ⟨ad', h2, h3⟩
        · cases h3
        · injection h2 with h2; subst h2; exact h3
      go_wp2_with (at_builtin; apply stopHere9)
      refine (show wpList _ _ _ _ _ _ from ?_)
      refine wpList_append_grows _ rfl _ _ 22 rfl 5 i0 (.int .u8 0) 1 1 Tryd.underlying22 ji jz0 jz1 jz2 rfl (by decide) (some fd) cur.length cur.length (cur.map cB) rfl (fun h => by cases h) (by rw [List.length_map, Nat.mul_one]) (fun b h j u hj => by injection h with h; subst h; exact holds j u hj) ad 4 xc ((by4 n).map cB) rfl rfl hcA (cB_one _) (by omega) (by have := HK.out; unfold maxLen; omega) (by have := HK.out; omega) ?_
      intro v4 w4 hO4 hg4
      have HB4 : Hid (Below base w w4 ∧ KT21 w w4) := ⟨HB2.out.1.grown hg4 hs2 (fun z hz => by cases hz), HB2.out.2.trans (KT21.of_below ((Below.refl _ _).grown hg4 (Nat.le_refl _) (fun z hz => by cases hz)))⟩
      obtain ⟨c2, hc2⟩ : ∃ c2, c2 = cur ++ by4 n := ⟨_, rfl⟩
      have hl2 : cur.length + 4 = c2.length := by rw [hc2, List.length_append, by4_len21]
      rw [← List.map_append, ← hc2, hl2] at hO4
      have HO4 := hid13 (own_base16 hO4 hs2)
      have HC2 : Hid (c2 = l ++ (ns.take (k + 1)).flatMap by4) := by rw [hc2]; exact HK.out.2.2.1
      obtain ⟨o4, c4, hv4⟩ := own_form hO4
      subst hv4
      clear hO4 hg4 hA2 hcA HD2 HB2 hc2 hl2 hs2 hfA holds
      go_wp2
      go_roundg (gk - 1)
      case measure => have := HK.out; omega
      case rel => exact ⟨k + 1, c2, o4, c4, by have := HK.out; omega, rfl, rfl, HC2, .inl HO4.out, fun _ => HO4.out, HB4⟩
end Go.Proofs.YtiachojhnbicaaaDoor
namespace Go.Proofs.YtiachojhnbicaaaDoor
set_option linter.unusedSimpArgs false
set_option linter.unusedVariables false

theorem ld21_len (l ns : List Nat) : (ld21 l ns).length = l.length + 4 * ns.length := by
  unfold ld21
  rw [List.length_append, flat4_len21]
def byF (out : List Nat) (p : Pt) : List Nat := ld21 out [p.k.toNat, p.d.toNat, p.x.length] ++ p.x
def byH (a : List Nat) (n : Nat) : List Nat := ld21 [84, 80, 68, 49] [a.length, (crS a).toNat, n]
def byS (a : List Nat) (n : Nat) (L : List Pt) : List Nat := L.foldl byF (byH a n)
def bySum (l : List Nat) : List Nat := ld21 l [(crS l).toNat]
def byB (a : List Nat) (L : List Pt) : List Nat := if fitB a.length L then bySum (byS a L.length L) else []
def byE (a : List Nat) (L : List Pt) : Int := if fitB a.length L then 0 else 33
theorem byS_take {a : List Nat} {n : Nat} {L : List Pt} {j : Nat} {p : Pt} (h : L[j]? = some p) : byS a n (L.take (j + 1)) = byF (byS a n (L.take j)) p := by
  unfold byS
  rw [List.take_add_one, h, List.foldl_append]
  rfl
theorem byF_len (out : List Nat) (p : Pt) : (byF out p).length = out.length + 12 + p.x.length := by
  unfold byF
  rw [List.length_append, ld21_len]
  show out.length + 4 * 3 + _ = _
  omega
theorem byS_len (a : List Nat) (n : Nat) : ∀ (L : List Pt), (byS a n L).length = 16 + 12 * L.length + wt21 L := by
  intro L
  unfold byS
  suffices h : ∀ (L : List Pt) (o : List Nat), (L.foldl byF o).length = o.length + 12 * L.length + wt21 L by
    rw [h]
    have : (byH a n).length = 16 := by unfold byH; rw [ld21_len]; rfl
    omega
  intro L
  induction L with
  | nil => intro o; simp [wt21]
  | cons p L ih =>
    intro o
    rw [List.foldl_cons, ih, byF_len]
    unfold wt21
    simp
    omega
theorem by4_lt21 (n : Nat) (h : n < 4294967296) : ∀ b ∈ by4 n, b < 256 := by
  intro b hb
  unfold by4 at hb
  simp only [List.mem_cons, List.mem_nil_iff, or_false] at hb
  omega
theorem ld21_lt {l ns : List Nat} (hl : ∀ b ∈ l, b < 256) (hn : ∀ n ∈ ns, n < 4294967296) : ∀ b ∈ ld21 l ns, b < 256 := by
  intro b hb
  unfold ld21 at hb
  rcases List.mem_append.1 hb with h | h
  · exact hl b h
  · obtain ⟨n, h1, h2⟩ := List.mem_flatMap.1 h
    exact by4_lt21 n (hn n h1) b h2
theorem byF_lt {o : List Nat} {p : Pt} (ho : ∀ b ∈ o, b < 256) (hp : p.k.toNat < 4294967296 ∧ p.d.toNat < 4294967296 ∧ p.x.length < 4294967296) (hx : ∀ z ∈ p.x, z < 256) : ∀ b ∈ byF o p, b < 256 := by
  intro b hb
  unfold byF at hb
  rcases List.mem_append.1 hb with h | h
  · refine ld21_lt ho ?_ b h
    intro n hn
    simp only [List.mem_cons, List.mem_nil_iff, or_false] at hn
    rcases hn with rfl | rfl | rfl
    · exact hp.1
    · exact hp.2.1
    · exact hp.2.2
  · exact hx b h
theorem byH_lt (a : List Nat) (n : Nat) (ha : a.length < 4294967296) (hn : n < 4294967296) : ∀ b ∈ byH a n, b < 256 := by
  refine ld21_lt (by decide) ?_
  intro m hm
  have := (crS a).isLt
  simp only [List.mem_cons, List.mem_nil_iff, or_false] at hm
  rcases hm with rfl | rfl | rfl <;> omega
theorem byS_lt (a : List Nat) (n : Nat) (L : List Pt) (hx : ∀ p ∈ L, ∀ z ∈ p.x, z < 256) (ha : a.length < 4294967296) (hn : n < 4294967296) (hp : ∀ p ∈ L, p.k.toNat < 4294967296 ∧ p.d.toNat < 4294967296 ∧ p.x.length < 4294967296) : ∀ b ∈ byS a n L, b < 256 := by
  unfold byS
  suffices h : ∀ (L : List Pt) (o : List Nat), (∀ b ∈ o, b < 256) → (∀ p ∈ L, ∀ z ∈ p.x, z < 256) → (∀ p ∈ L, p.k.toNat < 4294967296 ∧ p.d.toNat < 4294967296 ∧ p.x.length < 4294967296) → ∀ b ∈ L.foldl byF o, b < 256 from h L _ (byH_lt a n ha hn) hx hp
  intro L
  induction L with
  | nil => intro o ho _ _ b hb; exact ho b hb
  | cons p L ih =>
    intro o ho hx hp
    rw [List.foldl_cons]
    exact ih _ (byF_lt ho (hp p (List.mem_cons_self ..)) (hx p (List.mem_cons_self ..))) (fun q hq => hx q (List.mem_cons_of_mem _ hq)) (fun q hq => hp q (List.mem_cons_of_mem _ hq))
theorem fit_nat21 {n : Nat} {L : List Pt} (h : fitB n L = true) : ∀ p ∈ L, 0 ≤ p.k ∧ p.k ≤ n ∧ 0 ≤ p.d ∧ p.d ≤ n := by
  intro p hp
  obtain ⟨j, hj⟩ := List.getElem?_of_mem hp
  obtain ⟨m, hm⟩ := ftS_some j h
  obtain ⟨o1, o2, o3, o4⟩ := (ftS_ok h hj hm).1
  have h2 := ftS_bd (Int.natCast_nonneg n) _ _ hm
  omega
theorem byB_lt (a : List Nat) (L : List Pt) (hx : ∀ p ∈ L, ∀ z ∈ p.x, z < 256) (ha : a.length < 4294967296) (hl : L.length < 4294967296) (hw : wt21 L < 4294967296) : ∀ z ∈ byB a L, z < 256 := by
  intro z hz
  unfold byB at hz
  split at hz
  · rename_i hf
    have hp : ∀ p ∈ L, p.k.toNat < 4294967296 ∧ p.d.toNat < 4294967296 ∧ p.x.length < 4294967296 := by
      intro p hp
      have h1 := fit_nat21 hf p hp
      have h2 : p.x.length ≤ wt21 L := by
        obtain ⟨j, hj⟩ := List.getElem?_of_mem hp
        have h3 := wt21_take hj
        have h4 := wt21_le (L := L) (j + 1)
        omega
      omega
    refine ld21_lt (byS_lt a _ L hx ha hl hp) ?_ z hz
    intro n hn
    rw [List.mem_singleton] at hn
    subst hn
    exact (crS _).isLt
  · cases hz
end Go.Proofs.YtiachojhnbicaaaDoor
namespace Go.Proofs.YtiachojhnbicaaaDoor
open Go.RowKit
set_option linter.unusedSimpArgs false
set_option linter.unusedVariables false

theorem wp_append_rowA {P : Program} {w : World} {o : Oper} {a : Act} {K : Act → World → Prop} {Q : Exit → Act → World → Prop} (s x : Operand) (t : TypeId)
    (ho : o.op = .call { callee := .builtin .append, args := #[s, x], argTypes := #[t, t] })
    (base : Nat) (e : TypeId) (i : TypeInfo) (z : Value) (size bytes : Nat) (ht : P.underlying t = some (.slice e)) (hi : P.info? e = some i) (hz : i.zero = some z)
    (hsize : i.size = size) (hby : i.bytes = bytes) (hzs : z.cells.size = size) (hsz : 0 < size)
    (v : Value) (n : Nat) (xs : List Value) (hs : a.eval s = v) (hown : w.ownsRow base e size v n xs)
    (vx : Value) (m : Nat) (news : List Value) (hx : a.eval x = vx) (hsrc : RowA w size vx m news) (h1 : ∀ y ∈ news, y.oneCell' = true)
    (h63 : n + m ≤ maxLen) (hbytes : (n + m) * bytes ≤ 140737488355328) (hbase : base ≤ w.heap.size)
    (h : ∀ ao cap w', w'.ownsRow base e size (.slice ao (n + m) cap) (n + m) (xs ++ news) → w.grownBy w' v.ownBlock → K (a.put o.dst (.slice ao (n + m) cap)) w') : o.wp P a w K Q := by
  obtain ⟨hl, xo, c, rfl, hcc, hsrc⟩ := hsrc
  rcases hsrc with ⟨rfl, rfl, rfl⟩ | ⟨ad, rfl, hc⟩
  · have : news = [] := List.eq_nil_of_length_eq_zero (by omega)
    subst this
    have hrun := run_append_owned_none (P := P) (w := w) base t o.type e i size ht hi v n xs hown
    obtain ⟨ao, cp, hv⟩ := own_form hown
    have hh := h ao cp w (by rw [List.append_nil, Nat.add_zero, ← hv]; exact hown) ⟨rfl, rfl, rfl, Nat.le_refl _, fun _ _ _ => rfl⟩
    rw [Nat.add_zero, ← hv] at hh
    unfold Oper.wp
    simp [execOp, ho, resolve, invoke, builtin, hs, hx, hrun, Result.andThen]
    exact hh
  · refine wp_append_own w s x t ho base e i z size bytes ht hi hz hsize hby hzs hsz v n xs hs hown ad m c news hx hl hc h1 h63 hbytes hbase ?_
    intro v' w' h2 h3 _
    obtain ⟨ao, cp, hv⟩ := own_form h2
    rw [hv]
    rw [hv] at h2
    exact h ao cp w' h2 h3
end Go.Proofs.YtiachojhnbicaaaDoor
