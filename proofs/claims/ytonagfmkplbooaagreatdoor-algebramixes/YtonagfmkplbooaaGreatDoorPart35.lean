/-
  Part 35 of the proof: 1 texts, one behind the other.
-/
import Derived.Test.YtonagfmkplbooaaGreatDoorPart29
import Derived.Test.YtonagfmkplbooaaGreatDoorPart27
/-
  What the call of package algebra's Only does.
-/
namespace Go.Proofs.YtonagfmkplbooaaGreatDoor
open Go.RowKit
set_option linter.unusedSimpArgs false
set_option linter.unusedVariables false

/-- The error of a table and a prefix. -/
def OnE (F : Int) (l : List Rte) (px : BitVec 128) (pn : Int) (z : Int) : Prop := ∃ x, TabE F l x ∧ ((x ≠ 0 ∧ z = x) ∨ (x = 0 ∧ z = checkE F px pn))
theorem onE_one {F : Int} {l : List Rte} {px : BitVec 128} {pn z z' : Int} (h : OnE F l px pn z) (h' : OnE F l px pn z') : z = z' := by
  obtain ⟨x, hx, h⟩ := h
  obtain ⟨x', hx', h'⟩ := h'
  obtain rfl := tabE_one hx hx'
  rcases h with ⟨a, b⟩ | ⟨a, b⟩ <;> rcases h' with ⟨c, d⟩ | ⟨c, d⟩
  · rw [b, d]
  · exact absurd c a
  · exact absurd a c
  · rw [b, d]
theorem onE_zero {F : Int} {l : List Rte} {px : BitVec 128} {pn : Int} (h : OnE F l px pn 0) : TabE F l 0 ∧ checkE F px pn = 0 := by
  obtain ⟨x, hx, h⟩ := h
  rcases h with ⟨a, b⟩ | ⟨a, b⟩
  · exact absurd b.symm a
  · subst a
    exact ⟨hx, b.symm⟩
/-- What is told. -/
def OnV (F : Int) (l : List Rte) (px : BitVec 128) (pn : Int) (z : Int) : Int × Int × List Rte := if z = 0 then (tabW F (jnd qOnly (swp F l) (swp F [((px, pn), 1)])), tabX F (jnd qOnly (swp F l) (swp F [((px, pn), 1)])), tabL F (jnd qOnly (swp F l) (swp F [((px, pn), 1)]))) else (0, z, [])
theorem check_len {F : Int} {px : BitVec 128} {pn : Int} (h : checkE F px pn = 0) : 0 ≤ pn := by
  unfold checkE at h
  split at h
  · split at h
    · cases h
    · omega
  · cases h
theorem one_rwr (w : World) (B : Nat) (hB : B = w.heap.size) (px : BitVec 128) (pn h : Int) : RwR (w.alloc (.cells #[.int .u64 (hI px), .int .u64 (lI px), .int .i64 pn, .int .i64 h] 45)) (.slice (some ⟨B, 0, none⟩) 1 1) [((px, pn), h)] := by
  subst hB
  refine ⟨some ⟨w.heap.size, 0, none⟩, 1, rfl, .inr ⟨w.heap.size, 0, rfl, ?_⟩⟩
  intro j u hj
  have := newsR w (.int .u64 (hI px)) (.int .u64 (lI px)) (.int .i64 pn) (.int .i64 h) 45 j u hj
  rw [addA, Nat.zero_add] at this
  rw [Nat.zero_add]
  exact this
set_option maxRecDepth 20000 in
set_option maxHeartbeats 16000000 in
theorem only_any (F : Int) (v : Value) (l : List Rte) (px : BitVec 128) (pn : Int) (w : World) (hT : Tab w) (hv : RwR w v l) :
    Calls Tryz.prog 8 #[.agg #[.int .i64 F, v], .agg #[.int .u64 (hI px), .int .u64 (lI px), .int .i64 pn]] w fun e w' => (∃ z v', OnE F l px pn z ∧ e = .returned (.tuple #[.agg #[.int .i64 (OnV F l px pn z).1, v'], .int .i64 (OnV F l px pn z).2.1]) ∧ w'.ownsRow w.heap.size 45 4 v' (OnV F l px pn z).2.2.length (rowR (OnV F l px pn z).2.2)) ∧ Below w.heap.size w w' := by
  have q1 := bl1 w (.cells #[.int .i64 F, v] 24)
  have q2 := bl1 (w.alloc (.cells #[.int .i64 F, v] 24)) (.cells #[.int .u64 (hI px), .int .u64 (lI px), .int .i64 pn] 29)
  have q3 := bl1 ((w.alloc (.cells #[.int .i64 F, v] 24)).alloc (.cells #[.int .u64 (hI px), .int .u64 (lI px), .int .i64 pn] 29)) (.cells #[.int .i64 0, .slice none 0 0] 24)
  have HT := hidR (((att_new w w.heap.size F v 24 rfl).below q2).below q3)
  have HP : Hid (AtP (((w.alloc (.cells #[.int .i64 F, v] 24)).alloc (.cells #[.int .u64 (hI px), .int .u64 (lI px), .int .i64 pn] 29)).alloc (.cells #[.int .i64 0, .slice none 0 0] 24)) (w.heap.size + 1) px pn) := hidR ((atp_new (w.alloc (.cells #[.int .i64 F, v] 24)) (w.heap.size + 1) px pn 29 (by simp)).below q3)
  have HN : Hid (AtU (((w.alloc (.cells #[.int .i64 F, v] 24)).alloc (.cells #[.int .u64 (hI px), .int .u64 (lI px), .int .i64 pn] 29)).alloc (.cells #[.int .i64 0, .slice none 0 0] 24)) (w.heap.size + 1 + 1) 0 (.slice none 0 0)) := hidR (by refine ⟨?_, ?_, ?_, ?_⟩ <;> simp [go_sem])
  have HB := hidR (keepb q3 (keepb q2 q1))
  have HTab := hidR hT
  have K1 := segs_any F v l _ (hv.below HB.out)
  obtain ⟨ao, c, rfl, -⟩ := hv
  obtain ⟨t0, t1⟩ := HT.out
  clear q1 q2 q3 hT
  go_enter Tryz.func8, Tryz.ntmps8
  go_wp2_with fail
  refine K1.mono ?_
  rintro e w3 ⟨⟨x, va, hx, rfl, hx1, hx2⟩, hb⟩
  have HB3 := hidR (keepb hb HB.out)
  have HT3 := hidR (HT.out.below hb)
  have HN3 := hidR (HN.out.below hb)
  have HP3 := hidR (HP.out.below hb)
  have HX := hidR hx
  clear K1 hb HB HT HN HP t0 t1 hx
  by_cases h0 : x = 0
  · subst h0
    have hA := hx1 rfl
    obtain ⟨xo, xc, rfl⟩ := own_form hA
    have HA := hidR (own_rwg hA)
    have K2 := pcheck_any F px pn w3
    obtain ⟨t0, t1⟩ := HT3.out
    obtain ⟨p0, p1, p2⟩ := HP3.out
    clear hx1 hx2 hA
    go_wp2_with fail
    refine K2.mono ?_
    rintro e w4 ⟨rfl, hb⟩
    have HB4 := hidR (keepb hb HB3.out)
    have HT4 := hidR (HT3.out.below hb)
    have HN4 := hidR (HN3.out.below hb)
    have HP4 := hidR (HP3.out.below hb)
    have HA4 := hidR (HA.out.below hb)
    have HE : Hid (OnE F l px pn (checkE F px pn)) := hidR ⟨0, HX.out, .inr ⟨rfl, rfl⟩⟩
    clear K2 hb HB3 HT3 HN3 HP3 HA t0 t1 p0 p1 p2
    obtain ⟨t0, t1⟩ := HT4.out
    obtain ⟨p0, p1, p2⟩ := HP4.out
    by_cases h1 : checkE F px pn = 0
    · have hn : (checkE F px pn != 0) = false := by simp [h1]
      have hpn := check_len h1
      rw [h1] at HE
      have q5 := bl1 w4 (.cells #[.int .u64 (hI px), .int .u64 (lI px), .int .i64 pn, .int .i64 1] 45)
      have K3 := sweep_any F (.slice (some ⟨w4.heap.size, 0, none⟩) 1 1) [((px, pn), 1)] _ (one_rwr w4 w4.heap.size rfl px pn 1) (by simp) (by intro r hr; simp at hr; subst hr; exact hpn)
      have hcl : (swp F l).length + (swp F [((px, pn), 1)]).length ≤ 1000000000 := by
        have h1 := (tab_ok HX.out).2.1
        have h3 := swp_len F l
        have h4 := swp_len F [((px, pn), 1)]
        simp at h4
        omega
      rw [h1]
      rw [h1] at hn
      clear h1
      go_wp2_with fail
      refine K3.mono ?_
      rintro e w2 ⟨⟨vb, rfl, hB'⟩, hb⟩
      have HB2 := hidR (keepb hb (keepb q5 HB4.out))
      have HC0 : Hid (AtU w2 (w.heap.size + 1 + 1) 0 (.slice none 0 0) ∧ w.heap.size ≤ w.heap.size + 1 + 1) := hidR ⟨(HN4.out.below q5).below hb, by omega⟩
      have HTT := (HT4.out.below q5).below hb
      have HT2 : Hid (AtW6 w2 w.heap.size F (.slice ao l.length c)) := hidR ⟨HTT.1, HTT.2, trivial, trivial⟩
      have HA2 := hidR ((HA4.out.below q5).below hb)
      have HB' := hidR (own_rwg hB')
      obtain ⟨yo, yc, rfl⟩ := own_form hB'
      have hjl : (jnd qOnly (swp F l) (swp F [((px, pn), 1)])).length ≤ 1000000000 := Nat.le_trans (jnd_len _ _ _) hcl
      have HJ : Hid (∀ W, Below w2.heap.size w2 W → Calls Tryz.prog 21 #[.slice xo (swp F l).length xc, .slice yo (swp F [((px, pn), 1)]).length yc, .func (.func 22) #[] #[]] W fun e w' => ∃ v, e = .returned v ∧ w'.ownsRow W.heap.size 47 5 v (jnd qOnly (swp F l) (swp F [((px, pn), 1)])).length (rowG (jnd qOnly (swp F l) (swp F [((px, pn), 1)]))) ∧ Below W.heap.size W w') := hidR (fun W hW => joined_any 22 qOnly only1_any (enters_of Tryz.func22 (by kernel_rfl) rfl) _ _ _ _ hcl W (HA2.out.below hW) (HB'.out.below hW))
      have HC : Hid (∀ W, Below w2.heap.size w2 W → ∀ v, W.ownsRow w2.heap.size 47 5 v (jnd qOnly (swp F l) (swp F [((px, pn), 1)])).length (rowG (jnd qOnly (swp F l) (swp F [((px, pn), 1)]))) → Calls Tryz.prog 20 #[.int .i64 F, v] W fun e w' => (∃ v', e = .returned (.tuple #[.agg #[.int .i64 (tabW F (jnd qOnly (swp F l) (swp F [((px, pn), 1)]))), v'], .int .i64 (tabX F (jnd qOnly (swp F l) (swp F [((px, pn), 1)])))]) ∧ w'.ownsRow W.heap.size 45 4 v' (tabL F (jnd qOnly (swp F l) (swp F [((px, pn), 1)]))).length (rowR (tabL F (jnd qOnly (swp F l) (swp F [((px, pn), 1)]))))) ∧ Below W.heap.size W w') := hidR (fun W hW v hv => covered_any F v _ W (HTab.out.keep (keepb hW HB2.out)) (own_rwg hv) hjl)
      have HV : Hid (OnV F l px pn 0 = (tabW F (jnd qOnly (swp F l) (swp F [((px, pn), 1)])), tabX F (jnd qOnly (swp F l) (swp F [((px, pn), 1)])), tabL F (jnd qOnly (swp F l) (swp F [((px, pn), 1)])))) := hidR (by rw [OnV, if_pos rfl])
      clear K3 hb q5 HTT HB4 HT4 HN4 HP4 HA4 t0 t1 p0 p1 p2 hB' HA2 HB' hjl hcl hpn
      revert HV HJ HC
      generalize jnd qOnly (swp F l) (swp F [((px, pn), 1)]) = T
      intro HJ HC HV
      go_wp2_with fail
      refine gh_region (γ := (Option Addr × Nat) × (Option Addr × Nat)) (qpOk 10 10 (by decide) (fun N => by kernel_rfl) (by kernel_rfl) (by kernel_rfl) (by kernel_rfl) (by kernel_rfl)) (by kernel_rfl) (by kernel_rfl) [some 34, some 35, some 36, some 37, some 38, some 39, some 40, some 41, none, some 5] (fun g => [.pointer (some ⟨w.heap.size, 0, none⟩), .int .i64 F, .slice xo (swp F l).length xc, .slice yo (swp F [((px, pn), 1)]).length yc, .slice g.1.1 T.length g.1.2, .tuple #[.agg #[.int .i64 (tabW F T), .slice g.2.1 (tabL F T).length g.2.2], .int .i64 (tabX F T)], .agg #[.int .i64 (tabW F T), .slice g.2.1 (tabL F T).length g.2.2], .int .i64 (tabX F T), undef, .int .i64 (tabX F T)]) (by kernel_rfl) (by simp) (fun lp g W => RC w w2 (w.heap.size + 1 + 1) F T 4 (fun j => lp.getD j false) g W) ((none, 0), (none, 0)) (RC.start ⟨HC0.out, HB2.out⟩ (fun j => by simp [Array.getElem?_replicate]; split <;> rfl)) ?step ?fin
      case step =>
        intro q o lp g w' a' ho hsz hun hdep hR hS K Q' hK
        have hfl : ∀ j, j ≠ q → (lp.setIfInBounds q true).getD j false = lp.getD j false := fun j hj => by rw [Array.getD_eq_getD_getElem?, Array.getD_eq_getD_getElem?, Array.getElem?_setIfInBounds_ne (by omega)]
        have hq : q < 10 := (List.getElem?_eq_some_iff.mp ho).1
        have hft : (lp.setIfInBounds q true).getD q false = true := getD_set_same (by rw [hsz]; exact hq)
        match q, ho, hun, hdep, hK, hfl, hft, hq with
        | 0, ho, hun, hdep, hK, hfl, hft, _ =>
          obtain rfl := Option.some.inj ho
          have o2 : a'.tmps[2]? = some (.pointer (some ⟨w.heap.size, 0, none⟩)) := (hS.old 2 (by simp)).trans rfl
          have hK' := hK g w' (fun _ _ _ _ _ _ => rfl) (hR.quiet (i := 0) (by decide) (by decide) (by decide) hun hft hfl (fun h => absurd h (by decide))) (.pointer (some ⟨w.heap.size, 0, none⟩)) (by simp only [valO, Option.bind_some]; simp only [putAll, Act.put, List.setIfInBounds_toArray, List.set_cons_zero, List.set_cons_succ]; rfl)
          clear hS hdep hR
          refine gh_quiet (v := .pointer (some ⟨w.heap.size, 0, none⟩)) ?_ ?_
          · (simp only [execOp, Act.eval, o2]; go_simp; first | done | (simp; done) | (simp [*]; done) | omega | (simp; omega))
          · exact hK'
        | 1, ho, hun, hdep, hK, hfl, hft, _ =>
          obtain rfl := Option.some.inj ho
          have d0 : lp.getD 0 false = true := hdep { on := 0, ground := .data } (by simp) rfl
          have e34 : a'.tmps[34]? = some (.pointer (some ⟨w.heap.size, 0, none⟩)) := (hS.don 0 _ 34 rfl d0 rfl).trans (by simp only [putAll, Act.put, List.setIfInBounds_toArray, List.set_cons_zero, List.set_cons_succ]; rfl)
          obtain ⟨t0, t1, -, -⟩ := AtW6.below HT2.out (hR.bel (hR.now (i := 1) (by decide) hun))
          have hK' := hK g w' (fun _ _ _ _ _ _ => rfl) (hR.quiet (i := 1) (by decide) (by decide) (by decide) hun hft hfl (fun h => absurd h (by decide))) (.int .i64 F) (by simp only [valO, Option.bind_some]; simp only [putAll, Act.put, List.setIfInBounds_toArray, List.set_cons_zero, List.set_cons_succ]; rfl)
          clear hS hdep hR
          refine gh_quiet (v := .int .i64 F) ?_ ?_
          · (simp only [execOp, Act.eval, e34]; go_simp; first | done | (simp; done) | (simp [*]; done) | omega | (simp; omega))
          · exact hK'
        | 2, ho, hun, hdep, hK, hfl, hft, _ =>
          obtain rfl := Option.some.inj ho
          have o6 : a'.tmps[6]? = some (.slice xo (swp F l).length xc) := (hS.old 6 (by simp)).trans rfl
          have hK' := hK g w' (fun _ _ _ _ _ _ => rfl) (hR.quiet (i := 2) (by decide) (by decide) (by decide) hun hft hfl (fun h => absurd h (by decide))) (.slice xo (swp F l).length xc) (by simp only [valO, Option.bind_some]; simp only [putAll, Act.put, List.setIfInBounds_toArray, List.set_cons_zero, List.set_cons_succ]; rfl)
          clear hS hdep hR
          refine gh_quiet (v := .slice xo (swp F l).length xc) ?_ ?_
          · (simp only [execOp, Act.eval, o6]; go_simp; first | done | (simp; done) | (simp [*]; done) | omega | (simp; omega))
          · exact hK'
        | 3, ho, hun, hdep, hK, hfl, hft, _ =>
          obtain rfl := Option.some.inj ho
          have o9 : a'.tmps[9]? = some (.slice yo (swp F [((px, pn), 1)]).length yc) := (hS.old 9 (by simp)).trans rfl
          have hK' := hK g w' (fun _ _ _ _ _ _ => rfl) (hR.quiet (i := 3) (by decide) (by decide) (by decide) hun hft hfl (fun h => absurd h (by decide))) (.slice yo (swp F [((px, pn), 1)]).length yc) (by simp only [valO, Option.bind_some]; simp only [putAll, Act.put, List.setIfInBounds_toArray, List.set_cons_zero, List.set_cons_succ]; rfl)
          clear hS hdep hR
          refine gh_quiet (v := .slice yo (swp F [((px, pn), 1)]).length yc) ?_ ?_
          · (simp only [execOp, Act.eval, o9]; go_simp; first | done | (simp; done) | (simp [*]; done) | omega | (simp; omega))
          · exact hK'
        | 4, ho, hun, hdep, hK, hfl, hft, _ =>
          obtain rfl := Option.some.inj ho
          have d2 : lp.getD 2 false = true := hdep { on := 2, ground := .data } (by simp) rfl
          have e36 : a'.tmps[36]? = some (.slice xo (swp F l).length xc) := (hS.don 2 _ 36 rfl d2 rfl).trans (by simp only [putAll, Act.put, List.setIfInBounds_toArray, List.set_cons_zero, List.set_cons_succ]; rfl)
          have d3 : lp.getD 3 false = true := hdep { on := 3, ground := .data } (by simp) rfl
          have e37 : a'.tmps[37]? = some (.slice yo (swp F [((px, pn), 1)]).length yc) := (hS.don 3 _ 37 rfl d3 rfl).trans (by simp only [putAll, Act.put, List.setIfInBounds_toArray, List.set_cons_zero, List.set_cons_succ]; rfl)
          have hb1 := hR.bel (hR.now (i := 4) (by decide) hun)
          have KJ := HJ.out w' hb1
          unfold Oper.wp
          simp only [execOp, Act.eval]
          simp [e36, e37, go_sem, Oper.upon]
          refine KJ.mono ?_
          rintro e w5 ⟨v5, rfl, hown, hb5⟩
          obtain ⟨ao5, c5, rfl⟩ := own_form hown
          exact hK ((ao5, c5), g.2) w5 (fun k ok s hk hl hd => gh_same (d := 38) (s := s) (by simp only [putAll, Act.put, List.setIfInBounds_toArray, List.set_cons_zero, List.set_cons_succ]; rfl) (by rintro rfl; have := dstG_of (by kernel_rfl) k 4 ok _ 38 hk rfl hd rfl; subst this; rw [hun] at hl; cases hl)) (hR.jo hun hft hfl hown hb5) _ (by simp only [valO, Option.bind_some]; simp only [putAll, Act.put, List.setIfInBounds_toArray, List.set_cons_zero, List.set_cons_succ]; rfl)
        | 5, ho, hun, hdep, hK, hfl, hft, _ =>
          obtain rfl := Option.some.inj ho
          have d1 : lp.getD 1 false = true := hdep { on := 1, ground := .data } (by simp) rfl
          have e35 : a'.tmps[35]? = some (.int .i64 F) := (hS.don 1 _ 35 rfl d1 rfl).trans (by simp only [putAll, Act.put, List.setIfInBounds_toArray, List.set_cons_zero, List.set_cons_succ]; rfl)
          have d4 : lp.getD 4 false = true := hdep { on := 4, ground := .data } (by simp) rfl
          have e38 : a'.tmps[38]? = some (.slice g.1.1 T.length g.1.2) := (hS.don 4 _ 38 rfl d4 rfl).trans (by simp only [putAll, Act.put, List.setIfInBounds_toArray, List.set_cons_zero, List.set_cons_succ]; rfl)
          have hb1 := hR.bel (hR.now (i := 5) (by decide) hun)
          have KC := HC.out w' hb1 _ (hR.j d4)
          unfold Oper.wp
          simp only [execOp, Act.eval]
          simp [e35, e38, go_sem, Oper.upon]
          refine KC.mono ?_
          rintro e w5 ⟨⟨v5, rfl, hown⟩, hb5⟩
          obtain ⟨ao5, c5, rfl⟩ := own_form hown
          have h7 : lp.getD 6 false = false := by
            cases h : lp.getD 6 false with
            | false => rfl
            | true => have := hR.cx h; rw [hun] at this; cases this
          refine hK (g.1, (ao5, c5)) w5 (fun k ok s hk hl hd => ?_) (hR.co hun hft hfl d4 hown hb5) _ (by simp only [valO, Option.bind_some]; simp only [putAll, Act.put, List.setIfInBounds_toArray, List.set_cons_zero, List.set_cons_succ]; rfl)
          refine gh_same2 (d := 39) (d2 := 40) (by simp only [putAll, Act.put, List.setIfInBounds_toArray, List.set_cons_zero, List.set_cons_succ]; try rfl) ?_ ?_
          · rintro rfl
            have := dstG_of (by kernel_rfl) k 5 ok _ 39 hk rfl hd rfl
            subst this
            rw [hun] at hl
            cases hl
          · rintro rfl
            have := dstG_of (by kernel_rfl) k 6 ok _ 40 hk rfl hd rfl
            subst this
            rw [h7] at hl
            cases hl
        | 6, ho, hun, hdep, hK, hfl, hft, _ =>
          obtain rfl := Option.some.inj ho
          have d5 : lp.getD 5 false = true := hdep { on := 5, ground := .data } (by simp) rfl
          have e39 : a'.tmps[39]? = some (.tuple #[.agg #[.int .i64 (tabW F T), .slice g.2.1 (tabL F T).length g.2.2], .int .i64 (tabX F T)]) := (hS.don 5 _ 39 rfl d5 rfl).trans (by simp only [putAll, Act.put, List.setIfInBounds_toArray, List.set_cons_zero, List.set_cons_succ]; rfl)
          have hK' := hK g w' (fun _ _ _ _ _ _ => rfl) (hR.quiet (i := 6) (by decide) (by decide) (by decide) hun hft hfl (fun _ => d5)) (.agg #[.int .i64 (tabW F T), .slice g.2.1 (tabL F T).length g.2.2]) (by simp only [valO, Option.bind_some]; simp only [putAll, Act.put, List.setIfInBounds_toArray, List.set_cons_zero, List.set_cons_succ]; rfl)
          clear hS hdep hR
          refine gh_quiet (v := .agg #[.int .i64 (tabW F T), .slice g.2.1 (tabL F T).length g.2.2]) ?_ ?_
          · (simp only [execOp, Act.eval, e39]; go_simp; first | done | (simp; done) | (simp [*]; done) | omega | (simp; omega))
          · exact hK'
        | 7, ho, hun, hdep, hK, hfl, hft, _ =>
          obtain rfl := Option.some.inj ho
          have d5 : lp.getD 5 false = true := hdep { on := 5, ground := .data } (by simp) rfl
          have e39 : a'.tmps[39]? = some (.tuple #[.agg #[.int .i64 (tabW F T), .slice g.2.1 (tabL F T).length g.2.2], .int .i64 (tabX F T)]) := (hS.don 5 _ 39 rfl d5 rfl).trans (by simp only [putAll, Act.put, List.setIfInBounds_toArray, List.set_cons_zero, List.set_cons_succ]; rfl)
          have hK' := hK g w' (fun _ _ _ _ _ _ => rfl) (hR.quiet (i := 7) (by decide) (by decide) (by decide) hun hft hfl (fun h => absurd h (by decide))) (.int .i64 (tabX F T)) (by simp only [valO, Option.bind_some]; simp only [putAll, Act.put, List.setIfInBounds_toArray, List.set_cons_zero, List.set_cons_succ]; rfl)
          clear hS hdep hR
          refine gh_quiet (v := .int .i64 (tabX F T)) ?_ ?_
          · (simp only [execOp, Act.eval, e39]; go_simp; first | done | (simp; done) | (simp [*]; done) | omega | (simp; omega))
          · exact hK'
        | 8, ho, hun, hdep, hK, hfl, hft, _ =>
          obtain rfl := Option.some.inj ho
          have d6 : lp.getD 6 false = true := hdep { on := 6, ground := .data } (by simp) rfl
          have e40 : a'.tmps[40]? = some (.agg #[.int .i64 (tabW F T), .slice g.2.1 (tabL F T).length g.2.2]) := (hS.don 6 _ 40 rfl d6 rfl).trans (by simp only [putAll, Act.put, List.setIfInBounds_toArray, List.set_cons_zero, List.set_cons_succ]; rfl)
          have o4 : a'.tmps[4]? = some (.pointer (some ⟨w.heap.size + 1 + 1, 0, none⟩)) := (hS.old 4 (by simp)).trans rfl
          have hall : ∀ j, j < 8 → lp.getD j false = true := by
            intro j hj
            match j, hj with
            | 0, _ => exact hdep { on := 0, ground := .phase } (by simp) rfl
            | 1, _ => exact hdep { on := 1, ground := .phase } (by simp) rfl
            | 2, _ => exact hdep { on := 2, ground := .phase } (by simp) rfl
            | 3, _ => exact hdep { on := 3, ground := .phase } (by simp) rfl
            | 4, _ => exact hdep { on := 4, ground := .phase } (by simp) rfl
            | 5, _ => exact hdep { on := 5, ground := .phase } (by simp) rfl
            | 6, _ => exact hdep { on := 6, ground := .phase } (by simp) rfl
            | 7, _ => exact hdep { on := 7, ground := .phase } (by simp) rfl
            | n + 8, h => exact absurd h (by omega)
          obtain ⟨z0, z1, f0, f1⟩ := hR.celln hun
          have hK' := hK g _ (fun _ _ _ _ _ _ => rfl) (hR.st hun hft hfl hall) undef rfl
          clear hS hdep hR
          unfold Oper.wp
          simp [execOp, Act.eval, e40, o4, go_sem, z0, z1, f0, f1, Oper.upon]
          exact hK'
        | 9, ho, hun, hdep, hK, hfl, hft, _ =>
          obtain rfl := Option.some.inj ho
          have d7 : lp.getD 7 false = true := hdep { on := 7, ground := .data } (by simp) rfl
          have e41 : a'.tmps[41]? = some (.int .i64 (tabX F T)) := (hS.don 7 _ 41 rfl d7 rfl).trans (by simp only [putAll, Act.put, List.setIfInBounds_toArray, List.set_cons_zero, List.set_cons_succ]; rfl)
          have hK' := hK g w' (fun _ _ _ _ _ _ => rfl) (hR.quiet (i := 9) (by decide) (by decide) (by decide) hun hft hfl (fun h => absurd h (by decide))) (.int .i64 (tabX F T)) (by simp only [valO, Option.bind_some]; simp only [putAll, Act.put, List.setIfInBounds_toArray, List.set_cons_zero, List.set_cons_succ]; rfl)
          clear hS hdep hR
          refine gh_quiet (v := .int .i64 (tabX F T)) ?_ ?_
          · (simp only [execOp, Act.eval, e41]; go_simp; first | done | (simp; done) | (simp [*]; done) | omega | (simp; omega))
          · exact hK'
        | n + 10, ho, hun, hdep, hK, hfl, hft, hq => exact absurd hq (by omega)
      case fin =>
        intro g W5 hR
        obtain ⟨hown, hlow, ⟨z0, z1, f0, f1⟩⟩ := hR.end (by simp) (by simp)
        have HOwn := hidR hown
        have HLow := hidR hlow
        simp only [putAll, Act.put, List.setIfInBounds_toArray, List.set_cons_zero, List.set_cons_succ]
        clear hR hown hlow
        refine wl_nil (P := Tryz.prog) (ops := #[]) ?_
        go_wp2
        exact bodyPost_ret (v := .tuple #[.agg #[.int .i64 (tabW F T), .slice g.2.1 (tabL F T).length g.2.2], .int .i64 (tabX F T)]) (by simp [results, Tryz.results8, go_sem, z0, z1]) rfl ⟨⟨0, _, HE.out, by rw [HV.out], by rw [HV.out]; exact own_wide HOwn.out HB2.out.size⟩, HLow.out⟩
    · have hn : (checkE F px pn != 0) = true := by simpa using h1
      obtain ⟨n0, n1, n2, n3⟩ := HN4.out
      have HV : Hid (OnV F l px pn (checkE F px pn) = (0, checkE F px pn, [])) := hidR (by rw [OnV, if_neg h1])
      have HBs := hidR ((HB4.out.setCell (p := ⟨w.heap.size + 1 + 1, 0, none⟩) (by simp; omega) (.int .i64 0)).setCell (p := ⟨w.heap.size + 1 + 1, 1, none⟩) (by simp; omega) (.slice none 0 0))
      obtain ⟨k0, k1, -, -⟩ := HN4.out.set02 0 (.slice none 0 0)
      clear h1 HN4
      revert HE HV hn
      generalize checkE F px pn = z
      intro HE hn HV
      go_wp2
      exact bodyPost_ret (v := .tuple #[.agg #[.int .i64 0, .slice none 0 0], .int .i64 z]) (by simp [results, Tryz.results8, go_sem, k0, k1]) rfl ⟨⟨z, _, HE.out, by rw [HV.out], by rw [HV.out]; exact World.ownsRow_nil _ _ _ _⟩, HBs.out⟩
  · have hn : (x != 0) = true := by simpa using h0
    obtain ⟨n0, n1, n2, n3⟩ := HN3.out
    have HE : Hid (OnE F l px pn x) := hidR ⟨x, HX.out, .inl ⟨h0, rfl⟩⟩
    have HV : Hid (OnV F l px pn x = (0, x, [])) := hidR (by rw [OnV, if_neg h0])
    have HBs := hidR ((HB3.out.setCell (p := ⟨w.heap.size + 1 + 1, 0, none⟩) (by simp; omega) (.int .i64 0)).setCell (p := ⟨w.heap.size + 1 + 1, 1, none⟩) (by simp; omega) (.slice none 0 0))
    obtain ⟨k0, k1, -, -⟩ := HN3.out.set02 0 (.slice none 0 0)
    clear h0 hx1 hx2 HN3
    go_wp2
    exact bodyPost_ret (v := .tuple #[.agg #[.int .i64 0, .slice none 0 0], .int .i64 x]) (by simp [results, Tryz.results8, go_sem, k0, k1]) rfl ⟨⟨x, _, HE.out, by rw [HV.out], by rw [HV.out]; exact World.ownsRow_nil _ _ _ _⟩, HBs.out⟩
end Go.Proofs.YtonagfmkplbooaaGreatDoor
