/-
  Part 27 of the proof: 2 texts, one behind the other.
-/
import Derived.Test.YtonagfmkplbooaaDoorPart26
import Derived.Test.YtonagfmkplbooaaDoorPart23
import Derived.Test.YtonagfmkplbooaaDoorPart6
/-
  What the call of package algebra's Only does.
-/
namespace Go.Proofs.YtonagfmkplbooaaDoor
open Go.RowKit
set_option linter.unusedSimpArgs false
set_option linter.unusedVariables false

/-- The error of a table and a prefix. -/
def OnE (F : Int) (l : List Rte) (px : BitVec 128) (pn : Int) (z : Int) : Prop := ∃ x, TabE F l x ∧ ((x ≠ 0 ∧ z = x) ∨ (x = 0 ∧ z = checkE F px pn))
theorem onE_one {F : Int} {l : List Rte} {px : BitVec 128} {pn z z' : Int} (h : OnE F l px pn z) (h' : OnE F l px pn z') : z = z' := by
  obtain ⟨x, hx, h⟩ := h
  obtain ⟨x', hx', h'⟩ := h'
  obtain rfl := tabE_one hx hx'
  rcases h with ⟨a, b⟩ | ⟨a, b⟩ <;> rcases h' with ⟨c, d⟩ | ⟨c, d⟩
  · rw [b, d]
  · exact absurd c a
  · exact absurd a c
  · rw [b, d]
theorem onE_zero {F : Int} {l : List Rte} {px : BitVec 128} {pn : Int} (h : OnE F l px pn 0) : TabE F l 0 ∧ checkE F px pn = 0 := by
  obtain ⟨x, hx, h⟩ := h
  rcases h with ⟨a, b⟩ | ⟨a, b⟩
  · exact absurd b.symm a
  · subst a
    exact ⟨hx, b.symm⟩
/-- What is told. -/
def OnV (F : Int) (l : List Rte) (px : BitVec 128) (pn : Int) (z : Int) : Int × Int × List Rte := if z = 0 then (tabW F (jnd qOnly (swp F l) (swp F [((px, pn), 1)])), tabX F (jnd qOnly (swp F l) (swp F [((px, pn), 1)])), tabL F (jnd qOnly (swp F l) (swp F [((px, pn), 1)]))) else (0, z, [])
theorem check_len {F : Int} {px : BitVec 128} {pn : Int} (h : checkE F px pn = 0) : 0 ≤ pn := by
  unfold checkE at h
  split at h
  · split at h
    · cases h
    · omega
  · cases h
theorem one_rwr (w : World) (B : Nat) (hB : B = w.heap.size) (px : BitVec 128) (pn h : Int) : RwR (w.alloc (.cells #[.int .u64 (hI px), .int .u64 (lI px), .int .i64 pn, .int .i64 h] 50)) (.slice (some ⟨B, 0, none⟩) 1 1) [((px, pn), h)] := by
  subst hB
  refine ⟨some ⟨w.heap.size, 0, none⟩, 1, rfl, .inr ⟨w.heap.size, 0, rfl, ?_⟩⟩
  intro j u hj
  have := newsR w (.int .u64 (hI px)) (.int .u64 (lI px)) (.int .i64 pn) (.int .i64 h) 50 j u hj
  rw [addA, Nat.zero_add] at this
  rw [Nat.zero_add]
  exact this
set_option maxRecDepth 20000 in
set_option maxHeartbeats 16000000 in
theorem only_any (F : Int) (v : Value) (l : List Rte) (px : BitVec 128) (pn : Int) (w : World) (hT : Tab w) (hv : RwR w v l) :
    Calls Tryd.prog 11 #[.agg #[.int .i64 F, v], .agg #[.int .u64 (hI px), .int .u64 (lI px), .int .i64 pn]] w fun e w' => (∃ z v', OnE F l px pn z ∧ e = .returned (.tuple #[.agg #[.int .i64 (OnV F l px pn z).1, v'], .int .i64 (OnV F l px pn z).2.1]) ∧ w'.ownsRow w.heap.size 50 4 v' (OnV F l px pn z).2.2.length (rowR (OnV F l px pn z).2.2)) ∧ Below w.heap.size w w' := by
  have q1 := bl1 w (.cells #[.int .i64 F, v] 24)
  have q2 := bl1 (w.alloc (.cells #[.int .i64 F, v] 24)) (.cells #[.int .u64 (hI px), .int .u64 (lI px), .int .i64 pn] 29)
  have q3 := bl1 ((w.alloc (.cells #[.int .i64 F, v] 24)).alloc (.cells #[.int .u64 (hI px), .int .u64 (lI px), .int .i64 pn] 29)) (.cells #[.int .i64 0, .slice none 0 0] 24)
  have HT := hidR (((att_new w w.heap.size F v 24 rfl).below q2).below q3)
  have HP : Hid (AtP (((w.alloc (.cells #[.int .i64 F, v] 24)).alloc (.cells #[.int .u64 (hI px), .int .u64 (lI px), .int .i64 pn] 29)).alloc (.cells #[.int .i64 0, .slice none 0 0] 24)) (w.heap.size + 1) px pn) := hidR ((atp_new (w.alloc (.cells #[.int .i64 F, v] 24)) (w.heap.size + 1) px pn 29 (by simp)).below q3)
  have HN : Hid (AtU (((w.alloc (.cells #[.int .i64 F, v] 24)).alloc (.cells #[.int .u64 (hI px), .int .u64 (lI px), .int .i64 pn] 29)).alloc (.cells #[.int .i64 0, .slice none 0 0] 24)) (w.heap.size + 1 + 1) 0 (.slice none 0 0)) := hidR (by refine ⟨?_, ?_, ?_, ?_⟩ <;> simp [go_sem])
  have HB := hidR (keepb q3 (keepb q2 q1))
  have HTab := hidR hT
  have K1 := segs_any F v l _ (hv.below HB.out)
  obtain ⟨ao, c, rfl, -⟩ := hv
  obtain ⟨t0, t1⟩ := HT.out
  clear q1 q2 q3 hT
  go_enter Tryd.func11, Tryd.ntmps11
  go_wp2_with fail
  refine K1.mono ?_
  rintro e w3 ⟨⟨x, va, hx, rfl, hx1, hx2⟩, hb⟩
  have HB3 := hidR (keepb hb HB.out)
  have HT3 := hidR (HT.out.below hb)
  have HN3 := hidR (HN.out.below hb)
  have HP3 := hidR (HP.out.below hb)
  have HX := hidR hx
  clear K1 hb HB HT HN HP t0 t1 hx
  by_cases h0 : x = 0
  · subst h0
    have hA := hx1 rfl
    obtain ⟨xo, xc, rfl⟩ := own_form hA
    have HA := hidR (own_rwg hA)
    have K2 := pcheck_any F px pn w3
    obtain ⟨t0, t1⟩ := HT3.out
    obtain ⟨p0, p1, p2⟩ := HP3.out
    clear hx1 hx2 hA
    go_wp2_with fail
    refine K2.mono ?_
    rintro e w4 ⟨rfl, hb⟩
    have HB4 := hidR (keepb hb HB3.out)
    have HT4 := hidR (HT3.out.below hb)
    have HN4 := hidR (HN3.out.below hb)
    have HP4 := hidR (HP3.out.below hb)
    have HA4 := hidR (HA.out.below hb)
    have HE : Hid (OnE F l px pn (checkE F px pn)) := hidR ⟨0, HX.out, .inr ⟨rfl, rfl⟩⟩
    clear K2 hb HB3 HT3 HN3 HP3 HA t0 t1 p0 p1 p2
    obtain ⟨t0, t1⟩ := HT4.out
    obtain ⟨p0, p1, p2⟩ := HP4.out
    by_cases h1 : checkE F px pn = 0
    · have hn : (checkE F px pn != 0) = false := by simp [h1]
      have hpn := check_len h1
      rw [h1] at HE
      have q5 := bl1 w4 (.cells #[.int .u64 (hI px), .int .u64 (lI px), .int .i64 pn, .int .i64 1] 50)
      have K3 := sweep_any F (.slice (some ⟨w4.heap.size, 0, none⟩) 1 1) [((px, pn), 1)] _ (one_rwr w4 w4.heap.size rfl px pn 1) (by simp) (by intro r hr; simp at hr; subst hr; exact hpn)
      have hcl : (swp F l).length + (swp F [((px, pn), 1)]).length ≤ 1000000000 := by
        have h1 := (tab_ok HX.out).2.1
        have h3 := swp_len F l
        have h4 := swp_len F [((px, pn), 1)]
        simp at h4
        omega
      rw [h1]
      rw [h1] at hn
      clear h1
      go_wp2_with fail
      refine K3.mono ?_
      rintro e w2 ⟨⟨vb, rfl, hB'⟩, hb⟩
      have HB2 := hidR (keepb hb (keepb q5 HB4.out))
      have HC0 : Hid (AtU w2 (w.heap.size + 1 + 1) 0 (.slice none 0 0) ∧ w.heap.size ≤ w.heap.size + 1 + 1) := hidR ⟨(HN4.out.below q5).below hb, by omega⟩
      have HTT := (HT4.out.below q5).below hb
      have HT2 : Hid (AtW6 w2 w.heap.size F (.slice ao l.length c)) := hidR ⟨HTT.1, HTT.2, trivial, trivial⟩
      have HA2 := hidR ((HA4.out.below q5).below hb)
      have HB' := hidR (own_rwg hB')
      obtain ⟨yo, yc, rfl⟩ := own_form hB'
      have hjl : (jnd qOnly (swp F l) (swp F [((px, pn), 1)])).length ≤ 1000000000 := Nat.le_trans (jnd_len _ _ _) hcl
      have HJ : Hid (∀ W, Below w2.heap.size w2 W → Calls Tryd.prog 25 #[.slice xo (swp F l).length xc, .slice yo (swp F [((px, pn), 1)]).length yc, .func (.func 26) #[] #[]] W fun e w' => ∃ v, e = .returned v ∧ w'.ownsRow W.heap.size 52 5 v (jnd qOnly (swp F l) (swp F [((px, pn), 1)])).length (rowG (jnd qOnly (swp F l) (swp F [((px, pn), 1)]))) ∧ Below W.heap.size W w') := hidR (fun W hW => joined_any 26 qOnly only1_any (enters_of Tryd.func26 (by kernel_rfl) rfl) _ _ _ _ hcl W (HA2.out.below hW) (HB'.out.below hW))
      have HC : Hid (∀ W, Below w2.heap.size w2 W → ∀ v, W.ownsRow w2.heap.size 52 5 v (jnd qOnly (swp F l) (swp F [((px, pn), 1)])).length (rowG (jnd qOnly (swp F l) (swp F [((px, pn), 1)]))) → Calls Tryd.prog 24 #[.int .i64 F, v] W fun e w' => (∃ v', e = .returned (.tuple #[.agg #[.int .i64 (tabW F (jnd qOnly (swp F l) (swp F [((px, pn), 1)]))), v'], .int .i64 (tabX F (jnd qOnly (swp F l) (swp F [((px, pn), 1)])))]) ∧ w'.ownsRow W.heap.size 50 4 v' (tabL F (jnd qOnly (swp F l) (swp F [((px, pn), 1)]))).length (rowR (tabL F (jnd qOnly (swp F l) (swp F [((px, pn), 1)]))))) ∧ Below W.heap.size W w') := hidR (fun W hW v hv => covered_any F v _ W (HTab.out.keep (keepb hW HB2.out)) (own_rwg hv) hjl)
      have HV : Hid (OnV F l px pn 0 = (tabW F (jnd qOnly (swp F l) (swp F [((px, pn), 1)])), tabX F (jnd qOnly (swp F l) (swp F [((px, pn), 1)])), tabL F (jnd qOnly (swp F l) (swp F [((px, pn), 1)])))) := hidR (by rw [OnV, if_pos rfl])
      clear K3 hb q5 HTT HB4 HT4 HN4 HP4 HA4 t0 t1 p0 p1 p2 hB' HA2 HB' hjl hcl hpn
      revert HV HJ HC
      generalize jnd qOnly (swp F l) (swp F [((px, pn), 1)]) = T
      intro HJ HC HV
      go_wp2_with fail
      refine gh_region (γ := (Option Addr × Nat) × (Option Addr × Nat)) (qpOk 10 10 (by decide) (fun N => by kernel_rfl) (by kernel_rfl) (by kernel_rfl) (by kernel_rfl) (by kernel_rfl)) (by kernel_rfl) (by kernel_rfl) [some 34, some 35, some 36, some 37, some 38, some 39, some 40, some 41, none, some 5] (fun g => [.pointer (some ⟨w.heap.size, 0, none⟩), .int .i64 F, .slice xo (swp F l).length xc, .slice yo (swp F [((px, pn), 1)]).length yc, .slice g.1.1 T.length g.1.2, .tuple #[.agg #[.int .i64 (tabW F T), .slice g.2.1 (tabL F T).length g.2.2], .int .i64 (tabX F T)], .agg #[.int .i64 (tabW F T), .slice g.2.1 (tabL F T).length g.2.2], .int .i64 (tabX F T), undef, .int .i64 (tabX F T)]) (by kernel_rfl) (by simp) (fun lp g W => RC w w2 (w.heap.size + 1 + 1) F T 4 (fun j => lp.getD j false) g W) ((none, 0), (none, 0)) (RC.start ⟨HC0.out, HB2.out⟩ (fun j => by simp [Array.getElem?_replicate]; split <;> rfl)) ?step ?fin
      case step =>
        intro q o lp g w' a' ho hsz hun hdep hR hS K Q' hK
        have hfl : ∀ j, j ≠ q → (lp.setIfInBounds q true).getD j false = lp.getD j false := fun j hj => by rw [Array.getD_eq_getD_getElem?, Array.getD_eq_getD_getElem?, Array.getElem?_setIfInBounds_ne (by omega)]
        have hq : q < 10 := (List.getElem?_eq_some_iff.mp ho).1
        have hft : (lp.setIfInBounds q true).getD q false = true := getD_set_same (by rw [hsz]; exact hq)
        match q, ho, hun, hdep, hK, hfl, hft, hq with
        | 0, ho, hun, hdep, hK, hfl, hft, _ =>
          obtain rfl := Option.some.inj ho
          have o2 : a'.tmps[2]? = some (.pointer (some ⟨w.heap.size, 0, none⟩)) := (hS.old 2 (by simp)).trans rfl
          have hK' := hK g w' (fun _ _ _ _ _ _ => rfl) (hR.quiet (i := 0) (by decide) (by decide) (by decide) hun hft hfl (fun h => absurd h (by decide))) (.pointer (some ⟨w.heap.size, 0, none⟩)) (by simp only [valO, Option.bind_some]; simp only [putAll, Act.put, List.setIfInBounds_toArray, List.set_cons_zero, List.set_cons_succ]; rfl)
          clear hS hdep hR
          refine gh_quiet (v := .pointer (some ⟨w.heap.size, 0, none⟩)) ?_ ?_
          · (simp only [execOp, Act.eval, o2]; go_simp; first | done | (simp; done) | (simp [*]; done) | omega | (simp; omega))
          · exact hK'
        | 1, ho, hun, hdep, hK, hfl, hft, _ =>
          obtain rfl := Option.some.inj ho
          have d0 : lp.getD 0 false = true := hdep { on := 0, ground := .data } (by simp) rfl
          have e34 : a'.tmps[34]? = some (.pointer (some ⟨w.heap.size, 0, none⟩)) := (hS.don 0 _ 34 rfl d0 rfl).trans (by simp only [putAll, Act.put, List.setIfInBounds_toArray, List.set_cons_zero, List.set_cons_succ]; rfl)
          obtain ⟨t0, t1, -, -⟩ := AtW6.below HT2.out (hR.bel (hR.now (i := 1) (by decide) hun))
          have hK' := hK g w' (fun _ _ _ _ _ _ => rfl) (hR.quiet (i := 1) (by decide) (by decide) (by decide) hun hft hfl (fun h => absurd h (by decide))) (.int .i64 F) (by simp only [valO, Option.bind_some]; simp only [putAll, Act.put, List.setIfInBounds_toArray, List.set_cons_zero, List.set_cons_succ]; rfl)
          clear hS hdep hR
          refine gh_quiet (v := .int .i64 F) ?_ ?_
          · (simp only [execOp, Act.eval, e34]; go_simp; first | done | (simp; done) | (simp [*]; done) | omega | (simp; omega))
          · exact hK'
        | 2, ho, hun, hdep, hK, hfl, hft, _ =>
          obtain rfl := Option.some.inj ho
          have o6 : a'.tmps[6]? = some (.slice xo (swp F l).length xc) := (hS.old 6 (by simp)).trans rfl
          have hK' := hK g w' (fun _ _ _ _ _ _ => rfl) (hR.quiet (i := 2) (by decide) (by decide) (by decide) hun hft hfl (fun h => absurd h (by decide))) (.slice xo (swp F l).length xc) (by simp only [valO, Option.bind_some]; simp only [putAll, Act.put, List.setIfInBounds_toArray, List.set_cons_zero, List.set_cons_succ]; rfl)
          clear hS hdep hR
          refine gh_quiet (v := .slice xo (swp F l).length xc) ?_ ?_
          · (simp only [execOp, Act.eval, o6]; go_simp; first | done | (simp; done) | (simp [*]; done) | omega | (simp; omega))
          · exact hK'
        | 3, ho, hun, hdep, hK, hfl, hft, _ =>
          obtain rfl := Option.some.inj ho
          have o9 : a'.tmps[9]? = some (.slice yo (swp F [((px, pn), 1)]).length yc) := (hS.old 9 (by simp)).trans rfl
          have hK' := hK g w' (fun _ _ _ _ _ _ => rfl) (hR.quiet (i := 3) (by decide) (by decide) (by decide) hun hft hfl (fun h => absurd h (by decide))) (.slice yo (swp F [((px, pn), 1)]).length yc) (by simp only [valO, Option.bind_some]; simp only [putAll, Act.put, List.setIfInBounds_toArray, List.set_cons_zero, List.set_cons_succ]; rfl)
          clear hS hdep hR
          refine gh_quiet (v := .slice yo (swp F [((px, pn), 1)]).length yc) ?_ ?_
          · (simp only [execOp, Act.eval, o9]; go_simp; first | done | (simp; done) | (simp [*]; done) | omega | (simp; omega))
          · exact hK'
        | 4, ho, hun, hdep, hK, hfl, hft, _ =>
          obtain rfl := Option.some.inj ho
          have d2 : lp.getD 2 false = true := hdep { on := 2, ground := .data } (by simp) rfl
          have e36 : a'.tmps[36]? = some (.slice xo (swp F l).length xc) := (hS.don 2 _ 36 rfl d2 rfl).trans (by simp only [putAll, Act.put, List.setIfInBounds_toArray, List.set_cons_zero, List.set_cons_succ]; rfl)
          have d3 : lp.getD 3 false = true := hdep { on := 3, ground := .data } (by simp) rfl
          have e37 : a'.tmps[37]? = some (.slice yo (swp F [((px, pn), 1)]).length yc) := (hS.don 3 _ 37 rfl d3 rfl).trans (by simp only [putAll, Act.put, List.setIfInBounds_toArray, List.set_cons_zero, List.set_cons_succ]; rfl)
          have hb1 := hR.bel (hR.now (i := 4) (by decide) hun)
          have KJ := HJ.out w' hb1
          unfold Oper.wp
          simp only [execOp, Act.eval]
          simp [e36, e37, go_sem, Oper.upon]
          refine KJ.mono ?_
          rintro e w5 ⟨v5, rfl, hown, hb5⟩
          obtain ⟨ao5, c5, rfl⟩ := own_form hown
          exact hK ((ao5, c5), g.2) w5 (fun k ok s hk hl hd => gh_same (d := 38) (s := s) (by simp only [putAll, Act.put, List.setIfInBounds_toArray, List.set_cons_zero, List.set_cons_succ]; rfl) (by rintro rfl; have := dstG_of (by kernel_rfl) k 4 ok _ 38 hk rfl hd rfl; subst this; rw [hun] at hl; cases hl)) (hR.jo hun hft hfl hown hb5) _ (by simp only [valO, Option.bind_some]; simp only [putAll, Act.put, List.setIfInBounds_toArray, List.set_cons_zero, List.set_cons_succ]; rfl)
        | 5, ho, hun, hdep, hK, hfl, hft, _ =>
          obtain rfl := Option.some.inj ho
          have d1 : lp.getD 1 false = true := hdep { on := 1, ground := .data } (by simp) rfl
          have e35 : a'.tmps[35]? = some (.int .i64 F) := (hS.don 1 _ 35 rfl d1 rfl).trans (by simp only [putAll, Act.put, List.setIfInBounds_toArray, List.set_cons_zero, List.set_cons_succ]; rfl)
          have d4 : lp.getD 4 false = true := hdep { on := 4, ground := .data } (by simp) rfl
          have e38 : a'.tmps[38]? = some (.slice g.1.1 T.length g.1.2) := (hS.don 4 _ 38 rfl d4 rfl).trans (by simp only [putAll, Act.put, List.setIfInBounds_toArray, List.set_cons_zero, List.set_cons_succ]; rfl)
          have hb1 := hR.bel (hR.now (i := 5) (by decide) hun)
          have KC := HC.out w' hb1 _ (hR.j d4)
          unfold Oper.wp
          simp only [execOp, Act.eval]
          simp [e35, e38, go_sem, Oper.upon]
          refine KC.mono ?_
          rintro e w5 ⟨⟨v5, rfl, hown⟩, hb5⟩
          obtain ⟨ao5, c5, rfl⟩ := own_form hown
          have h7 : lp.getD 6 false = false := by
            cases h : lp.getD 6 false with
            | false => rfl
            | true => have := hR.cx h; rw [hun] at this; cases this
          refine hK (g.1, (ao5, c5)) w5 (fun k ok s hk hl hd => ?_) (hR.co hun hft hfl d4 hown hb5) _ (by simp only [valO, Option.bind_some]; simp only [putAll, Act.put, List.setIfInBounds_toArray, List.set_cons_zero, List.set_cons_succ]; rfl)
          refine gh_same2 (d := 39) (d2 := 40) (by simp only [putAll, Act.put, List.setIfInBounds_toArray, List.set_cons_zero, List.set_cons_succ]; try rfl) ?_ ?_
          · rintro rfl
            have := dstG_of (by kernel_rfl) k 5 ok _ 39 hk rfl hd rfl
            subst this
            rw [hun] at hl
            cases hl
          · rintro rfl
            have := dstG_of (by kernel_rfl) k 6 ok _ 40 hk rfl hd rfl
            subst this
            rw [h7] at hl
            cases hl
        | 6, ho, hun, hdep, hK, hfl, hft, _ =>
          obtain rfl := Option.some.inj ho
          have d5 : lp.getD 5 false = true := hdep { on := 5, ground := .data } (by simp) rfl
          have e39 : a'.tmps[39]? = some (.tuple #[.agg #[.int .i64 (tabW F T), .slice g.2.1 (tabL F T).length g.2.2], .int .i64 (tabX F T)]) := (hS.don 5 _ 39 rfl d5 rfl).trans (by simp only [putAll, Act.put, List.setIfInBounds_toArray, List.set_cons_zero, List.set_cons_succ]; rfl)
          have hK' := hK g w' (fun _ _ _ _ _ _ => rfl) (hR.quiet (i := 6) (by decide) (by decide) (by decide) hun hft hfl (fun _ => d5)) (.agg #[.int .i64 (tabW F T), .slice g.2.1 (tabL F T).length g.2.2]) (by simp only [valO, Option.bind_some]; simp only [putAll, Act.put, List.setIfInBounds_toArray, List.set_cons_zero, List.set_cons_succ]; rfl)
          clear hS hdep hR
          refine gh_quiet (v := .agg #[.int .i64 (tabW F T), .slice g.2.1 (tabL F T).length g.2.2]) ?_ ?_
          · (simp only [execOp, Act.eval, e39]; go_simp; first | done | (simp; done) | (simp [*]; done) | omega | (simp; omega))
          · exact hK'
        | 7, ho, hun, hdep, hK, hfl, hft, _ =>
          obtain rfl := Option.some.inj ho
          have d5 : lp.getD 5 false = true := hdep { on := 5, ground := .data } (by simp) rfl
          have e39 : a'.tmps[39]? = some (.tuple #[.agg #[.int .i64 (tabW F T), .slice g.2.1 (tabL F T).length g.2.2], .int .i64 (tabX F T)]) := (hS.don 5 _ 39 rfl d5 rfl).trans (by simp only [putAll, Act.put, List.setIfInBounds_toArray, List.set_cons_zero, List.set_cons_succ]; rfl)
          have hK' := hK g w' (fun _ _ _ _ _ _ => rfl) (hR.quiet (i := 7) (by decide) (by decide) (by decide) hun hft hfl (fun h => absurd h (by decide))) (.int .i64 (tabX F T)) (by simp only [valO, Option.bind_some]; simp only [putAll, Act.put, List.setIfInBounds_toArray, List.set_cons_zero, List.set_cons_succ]; rfl)
          clear hS hdep hR
          refine gh_quiet (v := .int .i64 (tabX F T)) ?_ ?_
          · (simp only [execOp, Act.eval, e39]; go_simp; first | done | (simp; done) | (simp [*]; done) | omega | (simp; omega))
          · exact hK'
        | 8, ho, hun, hdep, hK, hfl, hft, _ =>
          obtain rfl := Option.some.inj ho
          have d6 : lp.getD 6 false = true := hdep { on := 6, ground := .data } (by simp) rfl
          have e40 : a'.tmps[40]? = some (.agg #[.int .i64 (tabW F T), .slice g.2.1 (tabL F T).length g.2.2]) := (hS.don 6 _ 40 rfl d6 rfl).trans (by simp only [putAll, Act.put, List.setIfInBounds_toArray, List.set_cons_zero, List.set_cons_succ]; rfl)
          have o4 : a'.tmps[4]? = some (.pointer (some ⟨w.heap.size + 1 + 1, 0, none⟩)) := (hS.old 4 (by simp)).trans rfl
          have hall : ∀ j, j < 8 → lp.getD j false = true := by
            intro j hj
            match j, hj with
            | 0, _ => exact hdep { on := 0, ground := .phase } (by simp) rfl
            | 1, _ => exact hdep { on := 1, ground := .phase } (by simp) rfl
            | 2, _ => exact hdep { on := 2, ground := .phase } (by simp) rfl
            | 3, _ => exact hdep { on := 3, ground := .phase } (by simp) rfl
            | 4, _ => exact hdep { on := 4, ground := .phase } (by simp) rfl
            | 5, _ => exact hdep { on := 5, ground := .phase } (by simp) rfl
            | 6, _ => exact hdep { on := 6, ground := .phase } (by simp) rfl
            | 7, _ => exact hdep { on := 7, ground := .phase } (by simp) rfl
            | n + 8, h => exact absurd h (by omega)
          obtain ⟨z0, z1, f0, f1⟩ := hR.celln hun
          have hK' := hK g _ (fun _ _ _ _ _ _ => rfl) (hR.st hun hft hfl hall) undef rfl
          clear hS hdep hR
          unfold Oper.wp
          simp [execOp, Act.eval, e40, o4, go_sem, z0, z1, f0, f1, Oper.upon]
          exact hK'
        | 9, ho, hun, hdep, hK, hfl, hft, _ =>
          obtain rfl := Option.some.inj ho
          have d7 : lp.getD 7 false = true := hdep { on := 7, ground := .data } (by simp) rfl
          have e41 : a'.tmps[41]? = some (.int .i64 (tabX F T)) := (hS.don 7 _ 41 rfl d7 rfl).trans (by simp only [putAll, Act.put, List.setIfInBounds_toArray, List.set_cons_zero, List.set_cons_succ]; rfl)
          have hK' := hK g w' (fun _ _ _ _ _ _ => rfl) (hR.quiet (i := 9) (by decide) (by decide) (by decide) hun hft hfl (fun h => absurd h (by decide))) (.int .i64 (tabX F T)) (by simp only [valO, Option.bind_some]; simp only [putAll, Act.put, List.setIfInBounds_toArray, List.set_cons_zero, List.set_cons_succ]; rfl)
          clear hS hdep hR
          refine gh_quiet (v := .int .i64 (tabX F T)) ?_ ?_
          · (simp only [execOp, Act.eval, e41]; go_simp; first | done | (simp; done) | (simp [*]; done) | omega | (simp; omega))
          · exact hK'
        | n + 10, ho, hun, hdep, hK, hfl, hft, hq => exact absurd hq (by omega)
      case fin =>
        intro g W5 hR
        obtain ⟨hown, hlow, ⟨z0, z1, f0, f1⟩⟩ := hR.end (by simp) (by simp)
        have HOwn := hidR hown
        have HLow := hidR hlow
        simp only [putAll, Act.put, List.setIfInBounds_toArray, List.set_cons_zero, List.set_cons_succ]
        clear hR hown hlow
        refine wl_nil (P := Tryd.prog) (ops := #[]) ?_
        go_wp2
        exact bodyPost_ret (v := .tuple #[.agg #[.int .i64 (tabW F T), .slice g.2.1 (tabL F T).length g.2.2], .int .i64 (tabX F T)]) (by simp [results, Tryd.results11, go_sem, z0, z1]) rfl ⟨⟨0, _, HE.out, by rw [HV.out], by rw [HV.out]; exact own_wide HOwn.out HB2.out.size⟩, HLow.out⟩
    · have hn : (checkE F px pn != 0) = true := by simpa using h1
      obtain ⟨n0, n1, n2, n3⟩ := HN4.out
      have HV : Hid (OnV F l px pn (checkE F px pn) = (0, checkE F px pn, [])) := hidR (by rw [OnV, if_neg h1])
      have HBs := hidR ((HB4.out.setCell (p := ⟨w.heap.size + 1 + 1, 0, none⟩) (by simp; omega) (.int .i64 0)).setCell (p := ⟨w.heap.size + 1 + 1, 1, none⟩) (by simp; omega) (.slice none 0 0))
      obtain ⟨k0, k1, -, -⟩ := HN4.out.set02 0 (.slice none 0 0)
      clear h1 HN4
      revert HE HV hn
      generalize checkE F px pn = z
      intro HE hn HV
      go_wp2
      exact bodyPost_ret (v := .tuple #[.agg #[.int .i64 0, .slice none 0 0], .int .i64 z]) (by simp [results, Tryd.results11, go_sem, k0, k1]) rfl ⟨⟨z, _, HE.out, by rw [HV.out], by rw [HV.out]; exact World.ownsRow_nil _ _ _ _⟩, HBs.out⟩
  · have hn : (x != 0) = true := by simpa using h0
    obtain ⟨n0, n1, n2, n3⟩ := HN3.out
    have HE : Hid (OnE F l px pn x) := hidR ⟨x, HX.out, .inl ⟨h0, rfl⟩⟩
    have HV : Hid (OnV F l px pn x = (0, x, [])) := hidR (by rw [OnV, if_neg h0])
    have HBs := hidR ((HB3.out.setCell (p := ⟨w.heap.size + 1 + 1, 0, none⟩) (by simp; omega) (.int .i64 0)).setCell (p := ⟨w.heap.size + 1 + 1, 1, none⟩) (by simp; omega) (.slice none 0 0))
    obtain ⟨k0, k1, -, -⟩ := HN3.out.set02 0 (.slice none 0 0)
    clear h0 hx1 hx2 HN3
    go_wp2
    exact bodyPost_ret (v := .tuple #[.agg #[.int .i64 0, .slice none 0 0], .int .i64 x]) (by simp [results, Tryd.results11, go_sem, k0, k1]) rfl ⟨⟨x, _, HE.out, by rw [HV.out], by rw [HV.out]; exact World.ownsRow_nil _ _ _ _⟩, HBs.out⟩
end Go.Proofs.YtonagfmkplbooaaDoor
/-
  Plain facts on numbers: how many prefixes a list of segments takes, where each boundary is an end of one of so many
  prefixes: the paths of the tree, those at the top shared.
-/
namespace Go.Proofs.YtonagfmkplbooaaDoor
set_option linter.unusedSimpArgs false
set_option linter.unusedVariables false

/-- The nodes with something below them, of a tree of d steps with r paths: at each step at most r, at most all. -/
def pthS : Nat → Nat → Nat
  | 0, _ => 0
  | d + 1, r => pthS d r + min (2 ^ d) r
theorem pthS_mono (r s : Nat) (h : r ≤ s) : ∀ d, pthS d r ≤ pthS d s := by
  intro d
  induction d with
  | zero => exact Nat.le_refl _
  | succ d ih => simp only [pthS]; omega
theorem pthS_two (p q : Nat) (h : 1 ≤ p + q) : ∀ d, pthS d p + pthS d q + 1 ≤ pthS (d + 1) (p + q) := by
  intro d
  induction d with
  | zero => simp only [pthS]; omega
  | succ d ih =>
    have e : 2 ^ (d + 1) = 2 * 2 ^ d := by rw [Nat.pow_succ]; omega
    rw [show pthS (d + 1 + 1) (p + q) = pthS (d + 1) (p + q) + min (2 ^ (d + 1)) (p + q) from rfl, show pthS (d + 1) p = pthS d p + min (2 ^ d) p from rfl, show pthS (d + 1) q = pthS d q + min (2 ^ d) q from rfl, e]
    generalize 2 ^ d = z at *
    omega
theorem Cn.le {u c a k : Nat} (h : Cn u c a k) : a ≤ c := by
  induction h with
  | done => exact Nat.le_refl _
  | step a e k h1 h2 h3 h4 ih => have := Nat.two_pow_pos e; omega
/-- A whole block takes one. -/
theorem Cn.whole {u a e k : Nat} (he : e ≤ 128) (hue : u ≤ e) (hd : 2 ^ e ∣ a) (h : Cn u (a + 2 ^ e) a k) : k = 1 := by
  have hp := Nat.two_pow_pos e
  generalize hc : a + 2 ^ e = c at h
  cases h with
  | done => omega
  | step _ f k g1 g2 g3 g4 =>
    have e1 : ¬ e + 1 ≤ f := by
      intro q
      have := (g2.down q).2
      rw [Nat.pow_succ] at this
      omega
    have e2 : ¬ f < e := fun q => g3 ⟨by omega, Rs.down ⟨hd, by omega⟩ q⟩
    have e3 : f = e := by omega
    subst e3
    rw [hc] at g4
    rw [g4.none]
theorem blk_in (x j m a e : Nat) (hm : m = x + 2 ^ j) (hx : 2 ^ (j + 1) ∣ x) (hxa : x ≤ a) (ha : 2 ^ e ∣ a) (h1 : a < m) (h2 : m < a + 2 ^ e) : j + 1 ≤ e := by
  apply Classical.byContradiction
  intro c
  have hej : 2 ^ e ∣ 2 ^ j := Nat.pow_dvd_pow 2 (by omega)
  have hex : 2 ^ e ∣ x := Nat.dvd_trans (Nat.pow_dvd_pow 2 (by omega)) hx
  have hem : 2 ^ e ∣ m := by rw [hm]; exact Nat.dvd_add hex hej
  have := Nat.le_of_dvd (by omega) (Nat.dvd_sub hem ha)
  omega
/-- A cover goes by the middle of a block, if it is not all of it. -/
theorem Cn.part {u c a k : Nat} (h : Cn u c a k) (x j m : Nat) (hm : m = x + 2 ^ j) (hx : 2 ^ (j + 1) ∣ x) (hc : c ≤ x + 2 ^ (j + 1)) (hmc : m ≤ c) (hn : ¬ (a = x ∧ c = x + 2 ^ (j + 1))) : x ≤ a → a ≤ m → ∃ k1 k2, Cn u m a k1 ∧ Cn u c m k2 ∧ k = k1 + k2 := by
  revert hn
  induction h with
  | done => intro hn h1 h2; have : c = m := by omega
            subst this; exact ⟨0, 0, .done, .done, rfl⟩
  | step a e k h1 h2 h3 h4 ih =>
    intro hn g1 g2
    by_cases hq : a = m
    · rw [hq] at h2 h3 h4 ⊢
      exact ⟨0, k + 1, .done, .step _ e k h1 h2 h3 h4, by omega⟩
    · have hp := Nat.two_pow_pos e
      have hpj : 2 ^ (j + 1) = 2 ^ j + 2 ^ j := by rw [Nat.pow_succ]; omega
      have hs : a + 2 ^ e ≤ m := by
        apply Classical.byContradiction
        intro q
        have he := blk_in x j m a e hm hx g1 h2.1 (by omega) (by omega)
        have h5 := (h2.down he).2
        exact hn ⟨by omega, by omega⟩
      obtain ⟨k1, k2, p1, p2, p3⟩ := ih (fun q => by omega) (by omega) hs
      exact ⟨k1 + 1, k2, .step a e k1 h1 ⟨h2.1, hs⟩ (fun q => h3 ⟨q.1, q.2.1, Nat.le_trans q.2.2 hmc⟩) p1, p2, by omega⟩
theorem Cn.parts {u c a k : Nat} (h : Cn u c a k) (x j m : Nat) (hj : j + 1 ≤ 128) (huj : u ≤ j) (hm : m = x + 2 ^ j) (hx : 2 ^ (j + 1) ∣ x) (hc : c ≤ x + 2 ^ (j + 1)) (hmc : m ≤ c) (hxa : x ≤ a) (ham : a ≤ m) : ∃ k1 k2, Cn u m a k1 ∧ Cn u c m k2 ∧ k ≤ k1 + k2 := by
  by_cases hn : a = x ∧ c = x + 2 ^ (j + 1)
  · obtain ⟨rfl, rfl⟩ := hn
    have hpj : 2 ^ (j + 1) = 2 ^ j + 2 ^ j := by rw [Nat.pow_succ]; omega
    have hp := Nat.two_pow_pos j
    have k1 := h.whole (e := j + 1) hj (by omega) hx
    have hd : 2 ^ j ∣ a := Nat.dvd_trans (Nat.pow_dvd_pow 2 (by omega)) hx
    refine ⟨1, 1, ?_, ?_, by omega⟩
    · subst hm
      exact .step a j 0 huj ⟨hd, Nat.le_refl _⟩ (fun q => by have := q.2.2; omega) .done
    · have e : a + 2 ^ (j + 1) = m + 2 ^ j := by omega
      rw [e]
      exact .step m j 0 huj ⟨by rw [hm]; exact Nat.dvd_add hd (Nat.dvd_refl _), Nat.le_refl _⟩ (fun q => by have := q.2.2; omega) .done
  · obtain ⟨k1, k2, p1, p2, p3⟩ := h.part x j m hm hx hc hmc hn hxa ham
    exact ⟨k1, k2, p1, p2, by omega⟩
/-- Segments from a to c, each with its cover; where one ends, B holds. -/
inductive Tot (u : Nat) (B : Nat → Prop) (c : Nat) : Nat → Nat → Prop
  | last (a k : Nat) : a < c → Cn u c a k → Tot u B c a k
  | more (a b k t : Nat) : a < b → b < c → B b → Cn u b a k → Tot u B c b t → Tot u B c a (k + t)
theorem Tot.parts {u : Nat} {B : Nat → Prop} {c a t : Nat} (h : Tot u B c a t) (x j m : Nat) (hj : j + 1 ≤ 128) (huj : u ≤ j) (hm : m = x + 2 ^ j) (hx : 2 ^ (j + 1) ∣ x) (hc : c ≤ x + 2 ^ (j + 1)) (hmc : m < c) : x ≤ a → a < m → ∃ t1 t2, Tot u B m a t1 ∧ Tot u B c m t2 ∧ t ≤ t1 + t2 := by
  induction h with
  | last a k h1 h2 =>
    intro g1 g2
    obtain ⟨k1, k2, p1, p2, p3⟩ := h2.parts x j m hj huj hm hx hc (by omega) g1 (by omega)
    exact ⟨k1, k2, .last _ _ g2 p1, .last _ _ hmc p2, p3⟩
  | more a b k t h1 h2 h3 h4 h5 ih =>
    intro g1 g2
    rcases Nat.lt_trichotomy b m with q | q | q
    · obtain ⟨t1, t2, p1, p2, p3⟩ := ih (by omega) q
      exact ⟨k + t1, t2, .more a b k t1 h1 q h3 h4 p1, p2, by omega⟩
    · subst q
      exact ⟨k, t, .last _ _ g2 h4, h5, Nat.le_refl _⟩
    · obtain ⟨k1, k2, p1, p2, p3⟩ := h4.parts x j m hj huj hm hx (by omega) (by omega) g1 (by omega)
      exact ⟨k1, k2 + t, .last _ _ g2 p1, .more m b k2 t q h2 h3 p2 h5, by omega⟩
/-- An end of a prefix that lies in the midst of a block: the prefix lies in the block. -/
theorem end_in (x j y e b : Nat) (hx : 2 ^ j ∣ x) (hy : 2 ^ e ∣ y) (hb : b = y ∨ b = y + 2 ^ e) (h1 : x < b) (h2 : b < x + 2 ^ j) : x ≤ y ∧ y + 2 ^ e ≤ x + 2 ^ j := by
  have hpe := Nat.two_pow_pos e
  have hpj := Nat.two_pow_pos j
  have hej : e < j := by
    apply Classical.byContradiction
    intro q
    have d1 : 2 ^ j ∣ 2 ^ e := Nat.pow_dvd_pow 2 (by omega)
    have d2 : 2 ^ j ∣ y := Nat.dvd_trans d1 hy
    have d3 : 2 ^ j ∣ b := by
      rcases hb with rfl | rfl
      · exact d2
      · exact Nat.dvd_add d2 d1
    have := Nat.le_of_dvd (by omega) (Nat.dvd_sub d3 hx)
    omega
  have d1 : 2 ^ e ∣ x := Nat.dvd_trans (Nat.pow_dvd_pow 2 (by omega)) hx
  have d2 : 2 ^ e ∣ x + 2 ^ j := Nat.dvd_add d1 (Nat.pow_dvd_pow 2 (by omega))
  have d3 : 2 ^ e ∣ b := by
    rcases hb with rfl | rfl
    · exact hy
    · exact Nat.dvd_add hy (Nat.dvd_refl _)
  have l1 := Nat.le_of_dvd (by omega) (Nat.dvd_sub d3 d1)
  have l2 := Nat.le_of_dvd (by omega) (Nat.dvd_sub d2 d3)
  rcases hb with rfl | rfl <;> omega
/-- Two parts of a list that have nothing in common. -/
theorem two_len {α : Type} (p q : α → Bool) (h : ∀ a, p a = true → q a = true → False) : ∀ l : List α, (l.filter p).length + (l.filter q).length ≤ l.length := by
  intro l
  induction l with
  | nil => simp
  | cons a l ih =>
    rw [List.filter_cons, List.filter_cons]
    by_cases hp : p a = true
    · by_cases hq : q a = true
      · exact absurd (h a hp hq) id
      · rw [if_pos hp, if_neg hq]; simp only [List.length_cons]; omega
    · rw [if_neg hp]
      by_cases hq : q a = true
      · rw [if_pos hq]; simp only [List.length_cons]; omega
      · rw [if_neg hq]; simp only [List.length_cons]; omega
/-- b is an end of one of these prefixes (where it begins, and of how many addresses, as a power). -/
def EndOf (l : List (Nat × Nat)) (b : Nat) : Prop := ∃ p ∈ l, b = p.1 ∨ b = p.1 + 2 ^ p.2
theorem Tot.one {u : Nat} {B : Nat → Prop} {a e t : Nat} (he : e ≤ 128) (hue : u ≤ e) (hd : 2 ^ e ∣ a) (h : Tot u B (a + 2 ^ e) a t) (hB : ∀ b, B b → a < b → b < a + 2 ^ e → False) : t = 1 := by
  cases h with
  | last _ _ h1 h2 => exact h2.whole he hue hd
  | more _ b k t h1 h2 h3 h4 h5 => exact absurd (hB b h3 h1 h2) id
/-- Not more than the paths of the tree take. -/
theorem tot_most (u : Nat) (B : Nat → Prop) (hu : ∀ b, B b → 2 ^ u ∣ b) : ∀ d x t (l : List (Nat × Nat)), u + d ≤ 128 → 2 ^ (u + d) ∣ x → (∀ p ∈ l, 2 ^ p.2 ∣ p.1) → (∀ b, B b → x < b → b < x + 2 ^ (u + d) → EndOf l b) → Tot u B (x + 2 ^ (u + d)) x t → t ≤ 1 + pthS d l.length := by
  intro d
  induction d with
  | zero =>
    intro x t l h1 h2 h3 h4 h5
    have := h5.one h1 (by omega) h2 (fun b hb q1 q2 => by
      have h2' : 2 ^ u ∣ x := h2
      have q2' : b < x + 2 ^ u := q2
      have := Nat.le_of_dvd (by omega) (Nat.dvd_sub (hu b hb) h2')
      omega)
    omega
  | succ d ih =>
    intro x t l h1 h2 h3 h4 h5
    have hpw : 2 ^ (u + (d + 1)) = 2 ^ (u + d) + 2 ^ (u + d) := by rw [← Nat.add_assoc, Nat.pow_succ]; omega
    have hp := Nat.two_pow_pos (u + d)
    have hd : 2 ^ (u + d) ∣ x := Nat.dvd_trans (Nat.pow_dvd_pow 2 (by omega)) h2
    by_cases hl : l = []
    · subst hl
      have := h5.one h1 (by omega) h2 (fun b hb q1 q2 => by
        obtain ⟨p, hp, _⟩ := h4 b hb q1 q2
        cases hp)
      omega
    · have hl1 : 1 ≤ l.length := by
        rcases Nat.eq_zero_or_pos l.length with q | q
        · exact absurd (List.length_eq_zero_iff.mp q) hl
        · exact q
      obtain ⟨t1, t2, p1, p2, p3⟩ := h5.parts x (u + d) (x + 2 ^ (u + d)) (by omega) (by omega) rfl h2 (Nat.le_of_eq (by rw [Nat.add_assoc])) (by omega) (Nat.le_refl _) (by omega)
      have i1 := ih x t1 (l.filter (fun p => decide (x ≤ p.1 ∧ p.1 + 2 ^ p.2 ≤ x + 2 ^ (u + d)))) (by omega) hd (fun p hp => h3 p (List.mem_filter.mp hp).1) (fun b hb q1 q2 => by
        obtain ⟨p, hp, he⟩ := h4 b hb q1 (by omega)
        exact ⟨p, List.mem_filter.mpr ⟨hp, decide_eq_true (end_in x (u + d) p.1 p.2 b hd (h3 p hp) he q1 q2)⟩, he⟩) p1
      have hd2 : 2 ^ (u + d) ∣ x + 2 ^ (u + d) := Nat.dvd_add hd (Nat.dvd_refl _)
      have e2 : x + 2 ^ (u + (d + 1)) = x + 2 ^ (u + d) + 2 ^ (u + d) := by omega
      rw [e2] at p2
      have i2 := ih (x + 2 ^ (u + d)) t2 (l.filter (fun p => decide (x + 2 ^ (u + d) ≤ p.1 ∧ p.1 + 2 ^ p.2 ≤ x + 2 ^ (u + d) + 2 ^ (u + d)))) (by omega) hd2 (fun p hp => h3 p (List.mem_filter.mp hp).1) (fun b hb q1 q2 => by
        obtain ⟨p, hp, he⟩ := h4 b hb (by omega) (by omega)
        exact ⟨p, List.mem_filter.mpr ⟨hp, decide_eq_true (end_in _ (u + d) p.1 p.2 b hd2 (h3 p hp) he q1 q2)⟩, he⟩) p2
      have i3 := two_len (fun p : Nat × Nat => decide (x ≤ p.1 ∧ p.1 + 2 ^ p.2 ≤ x + 2 ^ (u + d))) (fun p : Nat × Nat => decide (x + 2 ^ (u + d) ≤ p.1 ∧ p.1 + 2 ^ p.2 ≤ x + 2 ^ (u + d) + 2 ^ (u + d))) (fun p q1 q2 => by
        have := (of_decide_eq_true q1).2
        have := (of_decide_eq_true q2).1
        have := Nat.two_pow_pos p.2
        omega) l
      generalize (l.filter (fun p : Nat × Nat => decide (x ≤ p.1 ∧ p.1 + 2 ^ p.2 ≤ x + 2 ^ (u + d)))).length = n1 at i1 i3
      generalize (l.filter (fun p : Nat × Nat => decide (x + 2 ^ (u + d) ≤ p.1 ∧ p.1 + 2 ^ p.2 ≤ x + 2 ^ (u + d) + 2 ^ (u + d)))).length = n2 at i2 i3
      by_cases hz : 1 ≤ n1 + n2
      · have a1 := pthS_two n1 n2 hz d
        have a2 := pthS_mono _ _ i3 (d + 1)
        omega
      · have b1 : n1 = 0 := by omega
        have b2 : n2 = 0 := by omega
        subst b1; subst b2
        have a0 : ∀ d, pthS d 0 = 0 := by
          intro d
          induction d with
          | zero => rfl
          | succ d ih => simp [pthS, ih]
        have a1 := pthS_two 0 1 (by omega) d
        have a2 := pthS_mono 1 l.length hl1 (d + 1)
        have := a0 d
        rw [Nat.zero_add] at a1
        omega
theorem pthS_3000 : pthS 128 3000 ≤ 1048575 := by decide +kernel
theorem pthS_9000 : pthS 128 9000 ≤ 1048575 := by decide +kernel
end Go.Proofs.YtonagfmkplbooaaDoor
