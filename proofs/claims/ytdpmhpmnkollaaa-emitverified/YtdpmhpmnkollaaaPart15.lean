/-
  Part 15 of the proof: 2 texts, one behind the other.
-/
import Derived.Test.YtdpmhpmnkollaaaPart14
import Derived.Test.YtdpmhpmnkollaaaPart5
namespace Go.Proofs.Ytdpmhpmnkollaaa
open Go.RowKit Go.Shelf
set_option linter.unusedSimpArgs false
set_option linter.unusedVariables false
attribute [local go_sem] Oper.semAt_some

def stM16 (m : List (BitVec 32)) (s : Nat) : List (BitVec 32) := m.set (s / 32) (m.getD (s / 32) 0#32 ||| (1#32 <<< (31 - s % 32)))
def mapL (n : Nat) (l : List Rn) : List (BitVec 32) := l.foldl (fun m r => stM16 m r.f.toNat) (List.replicate (mwN n) 0#32)
theorem stM_len (m : List (BitVec 32)) (s : Nat) : (stM16 m s).length = m.length := by unfold stM16; simp
theorem mapL_len (n : Nat) (l : List Rn) : (mapL n l).length = mwN n := by
  unfold mapL
  have : ∀ (l : List Rn) (m : List (BitVec 32)), (l.foldl (fun m r => stM16 m r.f.toNat) m).length = m.length := by
    intro l
    induction l with
    | nil => intro m; rfl
    | cons r l ih => intro m; rw [List.foldl_cons, ih, stM_len]
  rw [this]; simp
theorem slot_in {n s : Nat} (h : s < 2 ^ n) (hn : n ≤ 24) : s / 32 < mwN n := by
  unfold mwN
  split
  · rename_i c
    have : (2 : Nat) ^ n ≤ 2 ^ 5 := Nat.pow_le_pow_right (by decide) (by omega)
    omega
  · rename_i c
    obtain ⟨k, rfl⟩ : ∃ k, n = k + 5 := ⟨n - 5, by omega⟩
    rw [Nat.add_sub_cancel]
    rw [Nat.pow_add] at h
    exact Nat.div_lt_of_lt_mul (by omega)
theorem lo_small {x : BitVec 128} (h : x.toNat < 16777216) : lI x = (x.toNat : Int) := by rw [lIN]; omega
theorem one_u32 (k : Nat) : Op.shift .shl .u32 1 .u64 (k : Int) = pure (.int .u32 (uI (1#32 <<< k))) := by
  have h := sh32u 1#32 k
  have e : uI 1#32 = 1 := by rw [uI_eq]; rfl
  rwa [e] at h
theorem own_cellU {W : World} {base e n g cap : Nat} {ys : List (BitVec 32)} (h : W.ownsRow base e 1 (.slice (some ⟨g, 0, none⟩) n cap) n (ys.map cU)) {k : Nat} {a : BitVec 32} (hk : ys[k]? = some a) : W.cell? ⟨g, k, none⟩ = some (.int .u32 (uI a)) ∧ W.frozen? ⟨g, k, none⟩ = false := by
  constructor
  · have := h.cells (g := g) rfl k (cU a) (by rw [List.getElem?_map, hk]; rfl)
    rwa [addA, Nat.zero_add] at this
  · rcases h.2 with ⟨h1, -⟩ | ⟨g', cap', cur, h1, hb, hg, -⟩
    · cases h1
    · injection h1 with h1 h2 h3
      injection h1 with h1
      injection h1 with h1
      subst h1
      exact fr_16 hg
set_option maxRecDepth 20000 in
set_option maxHeartbeats 8000000 in
theorem mapOf_any (nb : Nat) (v : Value) (l : List Rn) (w : World) (hv : RwN w v l) (hn : nb ≤ 24) (hl : l.length ≤ 1000000000) (hs : ∀ r ∈ l, r.f.toNat < 2 ^ nb) :
    Calls Try.prog 56 #[.agg #[.int .i64 (nb : Int), v]] w fun e w' => ∃ v', e = .returned v' ∧ w'.ownsRow w.heap.size 96 1 v' (mapL nb l).length ((mapL nb l).map cU) ∧ Below w.heap.size w w' := by
  obtain ⟨i0, hi, hz0, hz1, hz2⟩ := info13 Try.infoU13
  obtain ⟨ao, c, rfl, hc, hrow⟩ := hv
  have HV : Hid (RwN w (.slice ao l.length c) l) := ⟨ao, c, rfl, hc, hrow⟩
  have KM := fun w => emapWords_any nb hn w
  have HM := hid13 (mwN_hi nb hn)
  have HS := hid13 (fun r (h : r ∈ l) => (⟨slot_in (hs r h) hn, Nat.lt_of_lt_of_le (hs r h) (Nat.pow_le_pow_right (n := 2) (by decide) hn)⟩ : r.f.toNat / 32 < mwN nb ∧ r.f.toNat < 2 ^ 24))
  have HL : Hid (l.length ≤ 1000000000) := hl
  have HA := hid13 (atd_new w (nb : Int) (.slice ao l.length c) 53)
  have HB := hid13 (bl1 w (.cells #[.int .i64 (nb : Int), .slice ao l.length c] 53))
  have HF0 : Hid (mapL nb l = l.foldl (fun m r => stM16 m r.f.toNat) (List.replicate (mwN nb) 0#32)) := rfl
  obtain ⟨R, hR⟩ : ∃ R, R = mapL nb l := ⟨_, rfl⟩
  rw [← hR] at HF0 ⊢
  clear hR hs hrow hn
  generalize mwN nb = mw at *
  go_enter Try.func56, Try.ntmps56
  go_wp2_with fail
  refine (KM _).mono ?_
  rintro e w1 ⟨rfl, hw1⟩
  replace hw1 := hw1.symm
  obtain ⟨W1, hW1⟩ : ∃ W1, W1 = w.alloc (.cells #[.int .i64 (nb : Int), .slice ao l.length c] 53) := ⟨_, rfl⟩
  rw [← hW1] at HA HB hw1
  subst hw1
  obtain ⟨a0, a1⟩ := HA.out
  clear KM hW1
  go_wp2_with (at_make; apply stopHere9)
  refine (show wpList _ _ _ _ _ _ from ?_)
  refine wpList_make_mid _ rfl _ _ 65 rfl w.heap.size 96 i0 (.int .u32 0) Try.underlying65 hi hz0 hz1 rfl .i64 .i64 _ _ mw mw rfl rfl rfl rfl (Nat.le_refl _) (by rw [hz2]; have := HM.out; omega) (by have := HM.out; unfold maxLen; omega) HB.out.size ?_
  intro w2 ho2 hg2
  obtain ⟨G, hG⟩ : ∃ G, G = W1.heap.size := ⟨_, rfl⟩
  rw [← hG] at ho2 ⊢
  have hb2 : Below W1.heap.size W1 w2 := (Below.refl _ _).grown hg2 (Nat.le_refl _) (fun z hz => by cases hz)
  have HO2 : Hid (w2.ownsRow w.heap.size 96 1 (.slice (some ⟨G, 0, none⟩) mw mw) mw ((List.replicate mw 0#32).map cU)) := by
    show World.ownsRow _ _ _ _ _ _ _
    have e : (List.replicate mw 0#32).map cU = List.replicate mw (.int .u32 0) := by rw [List.map_replicate]; unfold cU; rw [uI_zero]
    rw [e]; exact ho2
  have HB2 := hid13 (keepb hb2 HB.out)
  have HGn : Hid (w.heap.size ≤ G) := by show _ ≤ _; rw [hG]; exact HB.out.size
  have a0 := keepc hb2 a0
  have a1 := keepc hb2 a1
  clear ho2 hg2 hb2 hG HA HB
  go_wp2_with fail
  go_loopw [13] (fun x13 wr => ∃ (k : Nat) (m : List (BitVec 32)), x13 = .int .i64 (k : Int) ∧ Hid (k ≤ l.length ∧ m.length = mw ∧ wr.ownsRow w.heap.size 96 1 (.slice (some ⟨G, 0, none⟩) mw mw) mw (m.map cU) ∧ Below w.heap.size w wr ∧ (l.drop k).foldl (fun m r => stM16 m r.f.toNat) m = R)) (fun x13 _ => l.length - (intOf x13).toNat)
  case atStart => exact ⟨0, _, rfl, hid13 ⟨Nat.zero_le _, by simp, HO2.out, HB2.out, HF0.out.symm⟩⟩
  case round =>
    clear HO2 HB2 a0 a1
    obtain ⟨k, m, rfl, HI⟩ := hrel
    by_cases hlt : k < l.length
    · have hli : (k : Int) < (l.length : Int) := by omega
      obtain ⟨r, hr⟩ : ∃ r, l[k]? = some r := ⟨l[k], by simp [hlt]⟩
      obtain ⟨hs1, hs2⟩ := HS.out r (List.mem_of_getElem? hr)
      obtain ⟨bb, off, hao, hcell⟩ : ∃ b off, ao = some ⟨b, off, none⟩ ∧ ∀ j r, l[j]? = some r → RnAt w b (off + j * 4) r := by
        obtain ⟨ao', c', e, hc', hr'⟩ := HV.out
        injection e with e1 e2 e3
        subst e1
        rcases hr' with h | h
        · rw [h] at hlt; simp at hlt
        · exact h
      subst hao
      have hrn := (hcell k r hr)
      have HT : Hid ((l.drop (k + 1)).foldl (fun m r => stM16 m r.f.toNat) (stM16 m r.f.toNat) = R) := by
        show _ = _
        rw [← HI.out.2.2.2.2]
        obtain ⟨h1, h2⟩ := List.getElem?_eq_some_iff.mp hr
        rw [List.drop_eq_getElem_cons h1, h2]; rfl
      obtain ⟨r0, r1, r2, r3⟩ := hrn
      rw [lo_small (by have : (2 : Nat) ^ 24 = 16777216 := by decide
                       omega)] at r1
      have r0 := keepc HI.out.2.2.2.1 r0
      have r1 := keepc HI.out.2.2.2.1 r1
      have r2 := keepc HI.out.2.2.2.1 r2
      have r3 := keepc HI.out.2.2.2.1 r3
      obtain ⟨s, hsd⟩ : ∃ s, s = r.f.toNat := ⟨_, rfl⟩
      rw [← hsd] at r1 hs1 hs2 HT
      obtain ⟨q, hq⟩ : ∃ q, q = s / 32 := ⟨_, rfl⟩
      obtain ⟨j, hj⟩ : ∃ j, j = 31 - s % 32 := ⟨_, rfl⟩
      have hqm : q < m.length := by rw [HI.out.2.1, hq]; exact hs1
      obtain ⟨x, hx⟩ : ∃ x, m[q]? = some x := ⟨m[q], List.getElem?_eq_getElem hqm⟩
      obtain ⟨c0, f0⟩ := own_cellU HI.out.2.2.1 hx
      have HSt : Hid (stM16 m s = m.set q (x ||| (1#32 <<< j))) := by
        show _ = _
        unfold stM16
        rw [← hq, ← hj, List.getD_eq_getElem?_getD, hx]; rfl
      have e1 : (s : Int) / 32 = (q : Int) := by omega
      have e2 : IntKind.u64.wrap (31 - (s : Int) % 32) = (j : Int) := by
        have : (31 - (s : Int) % 32) = (j : Int) := by omega
        rw [this]
        simp [IntKind.wrap, IntKind.bits, IntKind.signed]
        omega
      have e2' : 31 - (s : Int) % 32 = (j : Int) := by omega
      have uq : IntKind.u64.wrap (q : Int) = (q : Int) := by
        simp [IntKind.wrap, IntKind.bits, IntKind.signed]
        have : (2 : Nat) ^ 24 = 16777216 := by decide
        omega
      have ur : IntKind.u64.wrap ((s : Int) % 32) = (s : Int) % 32 := by
        simp [IntKind.wrap, IntKind.bits, IntKind.signed]
        omega
      have sh := one_u32 j
      have or1 : bits .or .u32 (uI x) (2 ^ j % 4294967296) = uI (x ||| (1#32 <<< j)) := by
        have h := shl32 1#32 j
        have e : uI 1#32 = 1 := by rw [uI_eq]; rfl
        rw [e, Int.one_mul] at h
        rw [h]
        exact or32 x (1#32 <<< j)
      have hqi : (q : Int) < (mw : Int) := by have := HI.out.2.1; omega
      have hgb : bb < wr.heap.size := cell_in r0
      have hgG : G < wr.heap.size := cell_in c0
      have HJ : Hid (k < l.length ∧ l.length ≤ 1000000000) := ⟨hlt, hl⟩
      have mk : IntKind.i64.wrap ((k : Int) + 1) = ((k + 1 : Nat) : Int) := by rw [IntKind.wrap_i64]; push_cast; omega
      clear hr hcell hlt hs1 hs2 hsd hq hj hx hqm hc
      go_wp2_with fail
      go_region
      have o5 := (HI.out.2.2.1.stored q (.int .u32 (uI (x ||| (1#32 <<< j))))).1
      have bq := bl1 (wr.setCell ⟨G, q, none⟩ (.int .u32 (uI (x ||| (1#32 <<< j))))) (.cells #[.int .u64 (hI r.f), .int .u64 (s : Int), .bool r.k, .int .i64 r.n] 50)
      have o6 := own_b13 bq o5
      have HO6 : Hid (((wr.setCell ⟨G, q, none⟩ (.int .u32 (uI (x ||| (1#32 <<< j))))).alloc (.cells #[.int .u64 (hI r.f), .int .u64 (s : Int), .bool r.k, .int .i64 r.n] 50)).drew.ownsRow w.heap.size 96 1 (.slice (some ⟨G, 0, none⟩) mw mw) mw ((stM16 m s).map cU)) := hid13 (by rw [HSt.out, List.map_set]; exact o6)
      have HB6 := hid13 ((keepb bq (HI.out.2.2.2.1.setCell (p := ⟨G, q, none⟩) (by exact HGn.out) (.int .u32 (uI (x ||| (1#32 <<< j)))))).drew)
      have HLn : Hid ((stM16 m s).length = mw) := by show _ = _; rw [stM_len]; exact HI.out.2.1
      clear bq o5 o6 HI c0 f0 r0 r1 r2 r3
      go_wp2
      go_roundw
      case rel => exact ⟨k + 1, stM16 m s, by first | rfl | simp, hid13 ⟨by have := HJ.out; omega, HLn.out, HO6.out, HB6.out, HT.out⟩⟩
      case measure => have := HJ.out; first | (simp [intOf]; done) | (simp [intOf]; omega) | (unfold intOf; simp; omega)
    · have hli : ¬ (k : Int) < (l.length : Int) := by omega
      have hm : m = R := by rw [← HI.out.2.2.2.2, List.drop_eq_nil_of_le (by omega)]; rfl
      have HE : Hid (wr.ownsRow w.heap.size 96 1 (.slice (some ⟨G, 0, none⟩) mw mw) R.length (R.map cU)) := by
        show World.ownsRow _ _ _ _ _ _ _
        rw [← hm, HI.out.2.1]; exact HI.out.2.2.1
      have HBe := hid13 HI.out.2.2.2.1
      clear HI hm
      go_wp2
      exact bodyPost_ret (v := .slice (some ⟨G, 0, none⟩) mw mw) (by simp [results, Try.results56, go_sem]) rfl ⟨_, rfl, HE.out, HBe.out⟩
end Go.Proofs.Ytdpmhpmnkollaaa
namespace Go.Proofs.Ytdpmhpmnkollaaa
open Go.RowKit Go.Shelf
set_option linter.unusedSimpArgs false
set_option linter.unusedVariables false
attribute [local go_sem] Oper.semAt_some

structure LdV (w : World) (C G cap : Nat) (code : List Nat) (vp : Value) (P : List Int) (W : World) : Prop where
  c : W.heap[C]? = some (.cells #[.slice (some ⟨G, 0, none⟩) code.length cap, vp] 91)
  o : W.ownsRow w.heap.size 5 1 (.slice (some ⟨G, 0, none⟩) code.length cap) code.length (code.map cB)
  p : W.ownsRow w.heap.size 3 1 vp P.length (P.map cI)
  b : Below w.heap.size w W
  nb : w.heap.size ≤ C ∧ w.heap.size ≤ G ∧ C ≠ G ∧ ∀ z, vp.ownBlock = some z → z ≠ C ∧ z ≠ G
def LdX (C G : Nat) (z : Nat) : Prop := z = C ∨ z = G
section
variable {w W W' : World} {C G cap : Nat} {code : List Nat} {vp : Value} {P : List Int}
theorem LdV.below (h : LdV w C G cap code vp P W) (hb : Below W.heap.size W W') : LdV w C G cap code vp P W' := ⟨(hb.block _ (lt_16 h.c)).trans h.c, own_b13 hb h.o, own_b13 hb h.p, keepb hb h.b, h.nb⟩
theorem LdV.app (h : LdV w C G cap code vp P W) {x : List Nat} (ho : W'.ownsRow w.heap.size 5 1 (.slice (some ⟨G, 0, none⟩) (code.length + x.length) cap) (code.length + x.length) (code.map cB ++ x.map cB)) (hg : W.grownBy W' (some G)) : LdV w C G cap (code ++ x) vp P (W'.setCell ⟨C, 0, none⟩ (.slice (some ⟨G, 0, none⟩) (code.length + x.length) cap)) := by
  obtain ⟨n1, n2, n3, n4⟩ := h.nb
  have kp : W'.heap[C]? = some (.cells #[.slice (some ⟨G, 0, none⟩) code.length cap, vp] 91) := (hg.block _ (lt_16 h.c) (fun e => by injection e with e; exact n3 e)).trans h.c
  refine ⟨?_, ?_, ?_, ?_, n1, n2, n3, n4⟩
  · rw [set_16 kp]; simp
  · refine own_far16 ?_ _ (fun e => n3 (Option.some.inj (show some G = some C from e)).symm)
    rw [List.length_append, List.map_append]; exact ho
  · refine own_far16 (h.p.kept hg ?_) _ (fun e => (n4 _ e).1 rfl)
    cases hv : vp.ownBlock with
    | none => exact .inl rfl
    | some z => exact .inr (fun e => (n4 z hv).2 (Option.some.inj e))
  · exact (h.b.grown hg h.b.size (fun r e => by injection e with e; omega)).setCell (p := ⟨C, 0, none⟩) n1 _
end
theorem answer_any (C : Nat) (h : Int) (w : World) :
    Calls Try.prog 77 #[.pointer (some ⟨C, 0, none⟩), .int .i64 h] w fun e w' => e = .returned (.agg #[.int .i64 4, .int .i64 h, .slice none 0 0]) ∧ Below w.heap.size w w' := by
  go_enter Try.func77, Try.ntmps77
  go_wp2
  exact bodyPost_ret (v := .agg #[.int .i64 4, .int .i64 h, .slice none 0 0]) (by simp [results, Try.results77, go_sem]) rfl ⟨rfl, bl1 _ _⟩
set_option maxRecDepth 20000 in
set_option maxHeartbeats 4000000 in
theorem jump_any (w0 : World) (C G cap : Nat) (code : List Nat) (vp : Value) (P : List Int) (k : Nat) (y : Int) (w : World) (h : LdV w0 C G cap code vp P w) (hk : P[k]? = some y) (hc : code.length ≤ 1000000000) (hy0 : 0 ≤ y) (hy1 : y ≤ 1000000000) :
    Calls Try.prog 76 #[.pointer (some ⟨C, 0, none⟩), .int .i64 (k : Int)] w fun e w' => e = .returned (.agg #[.int .i64 3, .int .i64 (y - ((code.length / 4 : Nat) : Int)), .slice none 0 0]) ∧ Below w.heap.size w w' := by
  have c0 := at_16 h.c 0 _ rfl
  have c1 := at_16 h.c 1 _ rfl
  have hkl : k < P.length := (List.getElem?_eq_some_iff.mp hk).1
  obtain ⟨g, cp, hvp⟩ : ∃ g cp, vp = .slice (some ⟨g, 0, none⟩) P.length cp := by
    rcases h.p.2 with ⟨h1, h2⟩ | ⟨g, cp, cur, h1, -⟩
    · rw [h2] at hkl; omega
    · exact ⟨g, cp, h1⟩
  subst hvp
  have p0 := (own_cell16 h.p hk).1
  have hki : (k : Int) < (P.length : Int) := by omega
  have hC : C < w.heap.size := lt_16 h.c
  have hg : g < w.heap.size := cell_in p0
  obtain ⟨q, hq⟩ : ∃ q : Nat, q = code.length / 4 := ⟨_, rfl⟩
  obtain ⟨z, hz⟩ : ∃ z : Int, z = y - (q : Int) := ⟨_, rfl⟩
  have e1 : (code.length : Int) / 4 = (q : Int) := by omega
  have us' : wrap64 (y - (q : Int)) = z := by unfold wrap64; omega
  have uq' : wrap64 (q : Int) = (q : Int) := by unfold wrap64; omega
  rw [← hq, ← hz]
  generalize code.length = cl at *
  clear h hk hkl hq hc hy0 hy1 hz
  go_enter Try.func76, Try.ntmps76
  go_wp2
  exact bodyPost_ret (v := .agg #[.int .i64 3, .int .i64 z, .slice none 0 0]) (by simp [results, Try.results76, go_sem]) rfl ⟨rfl, bl1 _ _⟩
theorem laidAs_any (C : Nat) (r : Rn) (w : World) :
    Calls Try.prog 57 #[.pointer (some ⟨C, 0, none⟩), rnV r] w fun e w' => e = .returned (.func (.func (if r.k then 76 else 77)) #[.pointer (some ⟨C, 0, none⟩)] #[]) ∧ Below w.heap.size w w' := by
  have hmf : ∀ (fn : Fn) (first cap : Array Value) (w : World), (Instr.makeFunc fn first cap).run Try.prog w = .ok (.func fn first cap) w := fun _ _ _ _ => rfl
  obtain ⟨f, k, n⟩ := r
  unfold rnV
  dsimp only
  cases k
  · go_enter Try.func57, Try.ntmps57
    go_wp2
    go_ret
    exact ⟨rfl, bl1 _ _⟩
  · go_enter Try.func57, Try.ntmps57
    go_wp2
    go_ret
    exact ⟨rfl, bl1 _ _⟩
set_option maxRecDepth 20000 in
set_option maxHeartbeats 4000000 in
theorem put_any16 (w0 : World) (C G cap : Nat) (code : List Nat) (vp : Value) (P : List Int) (o n : Int) (vm : Value) (m : List (BitVec 32)) (w : World) (h : LdV w0 C G cap code vp P w) (hm : RwX cU w vm m) (hml : m.length ≤ 1000000) (hok : chkE o n m = 0) (hfit : code.length + 4 * (1 + m.length) ≤ cap) :
    Calls Try.prog 55 #[.pointer (some ⟨C, 0, none⟩), .agg #[.int .i64 o, .int .i64 n, vm]] w fun e w' => e = .returned (.tuple #[]) ∧ LdV w0 C G cap (code ++ wdB o.toNat n.toNat m) vp P w' ∧ KX (LdX C G) w w' := by
  obtain ⟨i0, hi, hz0, hz1, hz2⟩ := info13 Try.infoB13
  have q1 := bl1 w (.cells #[.int .i64 o, .int .i64 n, vm] 67)
  have KE := encode_any (.slice none 0 0) [] o n vm m (w.alloc (.cells #[.int .i64 o, .int .i64 n, vm] 67)) ⟨rfl, none, 0, rfl, Nat.le_refl _, .inl ⟨rfl, rfl, rfl⟩⟩ (hm.below q1) (by simp) (by omega)
  have hen : enL [] o n m = wdB o.toNat n.toNat m := by unfold enL; rw [if_pos hok]; rfl
  rw [hen, hok] at KE
  have HE1 := hid13 (wdB_len o.toNat n.toNat m)
  have HH := hid13 (h.below q1)
  have HX := hid13 (kx_below (X := LdX C G) q1)
  have HF : Hid (code.length + 4 * (1 + m.length) ≤ cap) := hfit
  obtain ⟨mo, mc, hvm, -⟩ := id hm
  subst hvm
  generalize wdB o.toNat n.toNat m = xs at *
  clear h hm hok hen hfit q1
  go_enter Try.func55, Try.ntmps55
  go_wp2_with fail
  refine KE.mono ?_
  rintro e w2 ⟨v', rfl, ho, hb⟩
  have H2 := hid13 (HH.out.below hb)
  have X2 := hid13 (HX.out.below hb)
  obtain ⟨g2, c2, hv', -, -⟩ := ho.form (by rw [HE1.out]; omega)
  subst hv'
  have HO := hid13 ho
  have c0 := at_16 H2.out.c 0 _ rfl
  clear KE ho hb HH HX
  go_wp2_with (at_builtin; apply stopHere9)
  refine (show wpList _ _ _ _ _ _ from ?_)
  refine wpList_append_fits _ rfl _ _ 27 rfl w0.heap.size 5 i0 1 Try.underlying27 hi hz1 G code.length cap (code.map cB) rfl H2.out.o ⟨g2, 0, none⟩ xs.length c2 (xs.map cB) rfl (by simp) (HO.out.cells rfl) (cB_one _) (by have := HF.out; have := HE1.out; omega) ?_
  intro w3 ho3 hg3
  have A3 := H2.out.app (x := xs) ho3 hg3
  have kc : w3.heap[C]? = some (.cells #[.slice (some ⟨G, 0, none⟩) code.length cap, vp] 91) := (hg3.block _ (lt_16 H2.out.c) (fun e => by injection e with e; exact H2.out.nb.2.2.1 e)).trans H2.out.c
  have d0 := at_16 kc 0 _ rfl
  have d0f := fr_16 (j := 0) kc
  have X3 : KX (LdX C G) w w3 := by
    refine ⟨Nat.le_trans X2.out.1 hg3.size, fun z h1 h2 => (hg3.block z (Nat.lt_of_lt_of_le h1 X2.out.1) (fun e => h2 (.inr (Option.some.inj e)))).trans (X2.out.2 z h1 h2)⟩
  have HX3 := hid13 (X3.set C 0 (.slice (some ⟨G, 0, none⟩) (code.length + xs.length) cap) (.inl (.inl rfl)))
  have HA3 := hid13 A3
  clear A3 X3 kc ho3 hg3 H2 X2 HO c0
  go_wp2
  go_end0
  exact ⟨rfl, HA3.out, HX3.out⟩
end Go.Proofs.Ytdpmhpmnkollaaa
