/-
  Part 10 of the proof: 1 texts, one behind the other.
-/
import Derived.Test.YtgbhbooogofmbaaDoorPart9
namespace Go.Proofs.YtgbhbooogofmbaaDoor
open Go.RowKit
set_option linter.unusedSimpArgs false
set_option linter.unusedVariables false

theorem Tryd.infoU17 : (Tryd.prog.info? 50).map (fun i => (i.zero, i.size, i.bytes)) = some (some (.int .u32 0), 1, 4) := by kernel_rfl
structure RM7 (w0 : World) (SB : Nat) (vr : Value) (b : List Nat) (k : Nat) (vm : Value) (X0 : World) (ld cl bd ap st : Bool) (g : Nat × (Nat × Nat)) (X : World) : Prop where
  a : ap = false → SmV w0 SB vr b k vm X ∧ Fr7 SB vm X0 vm X
  d : bd = true → ap = false → X.cell? ⟨g.1, 0, none⟩ = some (mkS b k)
  c : ap = true → st = false → Below w0.heap.size w0 X ∧ w0.heap.size ≤ SB ∧ X.cell? ⟨SB, 0, none⟩ = some vr ∧ X.cell? ⟨SB, 1, none⟩ = some vm ∧ X.frozen? ⟨SB, 1, none⟩ = false ∧ X.ownsRow (SB + 1) 50 1 (.slice (some ⟨g.2.1, 0, none⟩) (k + 1) g.2.2) (k + 1) ((List.range (k + 1)).map (mkS b)) ∧ Fr7 SB vm X0 (.slice (some ⟨g.2.1, 0, none⟩) (k + 1) g.2.2) X
  e : st = true → SmV w0 SB vr b (k + 1) (.slice (some ⟨g.2.1, 0, none⟩) (k + 1) g.2.2) X ∧ Fr7 SB vm X0 (.slice (some ⟨g.2.1, 0, none⟩) (k + 1) g.2.2) X
  p1 : ap = true → bd = true
  p2 : st = true → ap = true
  p3 : ap = true → ld = true
  p4 : bd = true → cl = true
section
variable {w0 : World} {SB : Nat} {vr : Value} {b : List Nat} {k : Nat} {vm : Value} {X0 X X' : World} {ld cl bd ap st : Bool} {g : Nat × (Nat × Nat)}
theorem RM7.setld (h : RM7 w0 SB vr b k vm X0 ld cl bd ap st g X) : RM7 w0 SB vr b k vm X0 true cl bd ap st g X := ⟨h.a, h.d, h.c, h.e, h.p1, h.p2, fun _ => rfl, h.p4⟩
theorem RM7.setcl (h : RM7 w0 SB vr b k vm X0 ld cl bd ap st g X) (hap : ap = false) (hb : Below X.heap.size X X') : RM7 w0 SB vr b k vm X0 ld true bd ap st g X' :=
  ⟨fun q => ⟨(h.a q).1.below hb, (h.a q).2.trans (Fr7.below hb)⟩, fun q1 q2 => keepc hb (h.d q1 q2), fun q => (by rw [hap] at q; cases q), fun q => (by have := h.p2 q; rw [hap] at this; cases this), h.p1, h.p2, h.p3, fun _ => rfl⟩
theorem RM7.build (h : RM7 w0 SB vr b k vm X0 ld cl bd ap st g X) (hap : ap = false) (hcl : cl = true) : RM7 w0 SB vr b k vm X0 ld cl true ap st (X.heap.size, g.2) (X.alloc (.cells #[mkS b k] 50)) :=
  have hb := bl1 X (.cells #[mkS b k] 50)
  ⟨fun q => ⟨(h.a q).1.below hb, (h.a q).2.trans (Fr7.below hb)⟩, fun _ _ => (by rw [World.cell?_alloc_mark]; rfl), fun q => (by rw [hap] at q; cases q), fun q => (by have := h.p2 q; rw [hap] at this; cases this), fun _ => rfl, h.p2, h.p3, fun _ => hcl⟩
theorem RM7.app (h : RM7 w0 SB vr b k vm X0 ld cl bd ap st g X) (hap : ap = false) (hld : ld = true) (hbd : bd = true) {gg cap : Nat} (ho : X'.ownsRow (SB + 1) 50 1 (.slice (some ⟨gg, 0, none⟩) (k + 1) cap) (k + 1) ((List.range (k + 1)).map (mkS b))) (hg : X.grownBy X' vm.ownBlock) (hat : vm.ownBlock = some gg ∨ gg = X.heap.size) :
    RM7 w0 SB vr b k vm X0 ld cl bd true st (g.1, (gg, cap)) X' := by
  have hs : st = false := by
    cases q : st with
    | false => rfl
    | true => have := h.p2 q; rw [hap] at this; cases this
  obtain ⟨h1, h2⟩ := h.a hap
  have hlo : Below w0.heap.size w0 X' := h1.lo.grown hg h1.lo.size (fun z e => by have := (h1.o.lt z e).1; have := h1.s; omega)
  have hSB : SB < X.heap.size := cell_in h1.m
  have hne : vm.ownBlock ≠ some SB := fun e => by have := (h1.o.lt SB e).1; omega
  have hbl : ∀ z, z < X.heap.size → vm.ownBlock ≠ some z → X'.heap[z]? = X.heap[z]? := fun z hz hn => hg.block z hz (fun e => hn e.symm)
  have eSB := hbl SB hSB hne
  refine ⟨fun q => (by cases q), fun _ q => (by cases q), fun _ _ => ⟨hlo, h1.s, ?_, ?_, ?_, ho, ?_⟩, fun q => (by rw [hs] at q; cases q), fun _ => hbd, fun _ => rfl, fun _ => hld, h.p4⟩
  · rw [World.cell?_of_block (w := X) eSB]; exact h1.r
  · rw [World.cell?_of_block (w := X) eSB]; exact h1.m
  · rw [World.frozen?_of_block (w := X) eSB]; exact h1.f
  · refine h2.trans ⟨hg.size, fun z hz _ hn => hbl z hz hn, fun z hz => ?_⟩
    have : gg = z := by simpa [Value.ownBlock] using hz
    subst this
    rcases hat with q | q
    · exact .inl q
    · exact .inr (by omega)
theorem RM7.sto (h : RM7 w0 SB vr b k vm X0 ld cl bd ap st g X) (hap : ap = true) (hs : st = false) :
    RM7 w0 SB vr b k vm X0 ld cl bd ap true g (X.setCell ⟨SB, 1, none⟩ (.slice (some ⟨g.2.1, 0, none⟩) (k + 1) g.2.2)) := by
  obtain ⟨h1, h2, h3, h4, h5, h6, h7⟩ := h.c hap hs
  refine ⟨fun q => (by rw [hap] at q; cases q), fun _ q => (by rw [hap] at q; cases q), fun _ q => (by cases q), fun _ => ⟨⟨h1.setCell (p := ⟨SB, 1, none⟩) h2 _, h2, by simp [go_sem, h3], by simp [go_sem, h4], by simp [go_sem, h5], ownsRow_setCell_below h6 (Nat.lt_succ_self _) _⟩, h7.trans ⟨by simp, fun z _ hz _ => Below.heap_setCell X ⟨SB, 1, none⟩ _ z hz, fun z hz => .inl hz⟩⟩, h.p1, fun _ => hap, h.p3, h.p4⟩
end

set_option maxRecDepth 20000 in
set_option maxHeartbeats 16000000 in
theorem markUpTo_any (w0 : World) (SB : Nat) (ao : Option Addr) (cc : Nat) (b : List Nat) (k : Nat) (vm : Value) (Xi : World) (hS : SmV w0 SB (.slice ao b.length cc) b k vm Xi) (hT : Hf w0) (hv : RwX cB w0 (.slice ao b.length cc) b) (hl : b.length ≤ 140737480000000 / 4) (hx : ∀ y ∈ b, y < 256) (hk : k ≤ b.length + 1) (n : Nat) (hn : 256 * n ≤ b.length) :
    Calls Tryd.prog 48 #[.pointer (some ⟨SB, 0, none⟩), .int .i64 (n : Int)] Xi fun e X' => e = .returned (.tuple #[]) ∧ ∃ k' vm', n < k' ∧ k' ≤ b.length + 1 ∧ SmV w0 SB (.slice ao b.length cc) b k' vm' X' ∧ Fr7 SB vm Xi vm' X' := by
  obtain ⟨j0, ji, jz0, jz1, jz2⟩ := info13 Tryd.infoU17
  obtain ⟨mo, mc, hvm⟩ := own_form hS.o
  have HT := hid13 hT
  have HV := hid13 hv
  have HX := hid13 hx
  have HLb := hid13 hl
  have HN := hid13 hn
  have HS := hid13 hS
  have HKb1 := hid13 hk
  subst hvm
  have y1 := hS.m
  clear hT hv hx hl hn hS hk
  go_enter Tryd.func48, Tryd.ntmps48
  by_cases h0 : k = 0
  · subst h0
    have HU : Hid (∀ Y, Below w0.heap.size w0 Y → Calls Tryd.prog 24 #[.slice none 0 0] Y fun e w' => e = .returned (mkS b 0) ∧ w' = Y) := hid13 (fun Y hY => by
      have h := sum_any (.slice none 0 0) [] Y ⟨none, 0, rfl, Nat.le_refl _, .inl rfl⟩ (fun p hp => by cases hp) (by decide) (HT.out.below hY)
      exact h)
    have HKb : Hid (0 + 1 ≤ b.length + 1 ∧ b.length ≤ 140737480000000 / 4) := ⟨by omega, HLb.out⟩
    have HR0 : Hid (RM7 w0 SB (.slice ao b.length cc) b 0 (.slice mo 0 mc) Xi false false false false false (0, (0, 0)) Xi.drew) := ⟨fun _ => ⟨HS.out.below (below_drewN (Below.refl _ _) 1), Fr7.below (below_drewN (Below.refl _ _) 1)⟩, fun h => (by cases h), fun h => (by cases h), fun h => (by cases h), fun h => (by cases h), fun h => (by cases h), fun h => (by cases h), fun h => (by cases h)⟩
    go_wp2_with fail
    refine gh_region (γ := Nat × (Nat × Nat)) (qpOk 11 11 (by decide) (fun N => by kernel_rfl) (by kernel_rfl) (by kernel_rfl) (by kernel_rfl) (by kernel_rfl)) (by kernel_rfl) (by kernel_rfl) [some 11, some 12, some 13, some 14, some 15, some 16, some 17, some 18, some 19, some 20, none] (fun g => [.pointer (some ⟨SB, 0, none⟩), .pointer (some ⟨SB, 0, none⟩), .pointer (some ⟨SB, 0, none⟩), .pointer (some ⟨SB, 1, none⟩), .slice mo 0 mc, mkS b (0), .slice (some ⟨g.1, 0, none⟩) 1 1, .slice (some ⟨g.2.1, 0, none⟩) (0 + 1) g.2.2, .pointer (some ⟨SB, 0, none⟩), .pointer (some ⟨SB, 1, none⟩), undef]) (by kernel_rfl) (by simp) (fun lp g X => RM7 w0 SB (.slice ao b.length cc) b (0) (.slice mo 0 mc) Xi (lp.getD 4 false) (lp.getD 5 false) (lp.getD 6 false) (lp.getD 7 false) (lp.getD 10 false) g X) (0, (0, 0)) HR0.out ?step1 ?fin1
    case step1 =>
      intro q o lp g w' a' ho hsz hun hdep hR hS K Q' hK
      have hfl : ∀ j, j ≠ q → (lp.setIfInBounds q true).getD j false = lp.getD j false := fun j hj => by rw [Array.getD_eq_getD_getElem?, Array.getD_eq_getD_getElem?, Array.getElem?_setIfInBounds_ne (by omega)]
      have hq : q < 11 := (List.getElem?_eq_some_iff.mp ho).1
      match q, ho, hun, hdep, hK, hfl, hq with
      | 0, ho, hun, hdep, hK, hfl, _ =>
        obtain rfl := Option.some.inj ho
        have o0 : a'.tmps[0]? = some (.pointer (some ⟨SB, 0, none⟩)) := (hS.old14 0 (by simp)).trans rfl
        have hK' := hK g w' (fun _ _ _ _ _ _ => rfl) (by rw [hfl 4 (by decide), hfl 5 (by decide), hfl 6 (by decide), hfl 7 (by decide), hfl 10 (by decide)]; exact hR) (.pointer (some ⟨SB, 0, none⟩)) (by simp only [valO, Option.bind_some]; (try simp only [putAll, Act.put, List.setIfInBounds_toArray, List.set_cons_zero, List.set_cons_succ]); (try rfl))
        clear hS hdep hR
        refine gh_quiet14 (v := .pointer (some ⟨SB, 0, none⟩)) ?_ ?_
        · (simp only [execOp, Act.eval, o0]; go_simp; first | done | (simp; done) | (simp [*]; done) | omega | (rw [IntKind.wrap_i64]; omega))
        · exact hK'
      | 1, ho, hun, hdep, hK, hfl, _ =>
        obtain rfl := Option.some.inj ho
        have o0 : a'.tmps[0]? = some (.pointer (some ⟨SB, 0, none⟩)) := (hS.old14 0 (by simp)).trans rfl
        have hK' := hK g w' (fun _ _ _ _ _ _ => rfl) (by rw [hfl 4 (by decide), hfl 5 (by decide), hfl 6 (by decide), hfl 7 (by decide), hfl 10 (by decide)]; exact hR) (.pointer (some ⟨SB, 0, none⟩)) (by simp only [valO, Option.bind_some]; (try simp only [putAll, Act.put, List.setIfInBounds_toArray, List.set_cons_zero, List.set_cons_succ]); (try rfl))
        clear hS hdep hR
        refine gh_quiet14 (v := .pointer (some ⟨SB, 0, none⟩)) ?_ ?_
        · (simp only [execOp, Act.eval, o0]; go_simp; first | done | (simp; done) | (simp [*]; done) | omega | (rw [IntKind.wrap_i64]; omega))
        · exact hK'
      | 2, ho, hun, hdep, hK, hfl, _ =>
        obtain rfl := Option.some.inj ho
        have d1 : lp.getD 1 false = true := hdep { on := 1, ground := .data } (by simp) rfl
        have e12 : a'.tmps[12]? = some (.pointer (some ⟨SB, 0, none⟩)) := (hS.don 1 _ 12 rfl d1 rfl).trans (by simp only [putAll, Act.put, List.setIfInBounds_toArray, List.set_cons_zero, List.set_cons_succ]; rfl)
        have hK' := hK g w' (fun _ _ _ _ _ _ => rfl) (by rw [hfl 4 (by decide), hfl 5 (by decide), hfl 6 (by decide), hfl 7 (by decide), hfl 10 (by decide)]; exact hR) (.pointer (some ⟨SB, 0, none⟩)) (by simp only [valO, Option.bind_some]; (try simp only [putAll, Act.put, List.setIfInBounds_toArray, List.set_cons_zero, List.set_cons_succ]); (try rfl))
        clear hS hdep hR
        refine gh_quiet14 (v := .pointer (some ⟨SB, 0, none⟩)) ?_ ?_
        · (simp only [execOp, Act.eval, e12]; go_simp; first | done | (simp; done) | (simp [*]; done) | omega | (rw [IntKind.wrap_i64]; omega))
        · exact hK'
      | 3, ho, hun, hdep, hK, hfl, _ =>
        obtain rfl := Option.some.inj ho
        have d2 : lp.getD 2 false = true := hdep { on := 2, ground := .data } (by simp) rfl
        have e13 : a'.tmps[13]? = some (.pointer (some ⟨SB, 0, none⟩)) := (hS.don 2 _ 13 rfl d2 rfl).trans (by simp only [putAll, Act.put, List.setIfInBounds_toArray, List.set_cons_zero, List.set_cons_succ]; rfl)
        have hK' := hK g w' (fun _ _ _ _ _ _ => rfl) (by rw [hfl 4 (by decide), hfl 5 (by decide), hfl 6 (by decide), hfl 7 (by decide), hfl 10 (by decide)]; exact hR) (.pointer (some ⟨SB, 1, none⟩)) (by simp only [valO, Option.bind_some]; (try simp only [putAll, Act.put, List.setIfInBounds_toArray, List.set_cons_zero, List.set_cons_succ]); (try rfl))
        clear hS hdep hR
        refine gh_quiet14 (v := .pointer (some ⟨SB, 1, none⟩)) ?_ ?_
        · (simp only [execOp, Act.eval, e13]; go_simp; first | done | (simp; done) | (simp [*]; done) | omega | (rw [IntKind.wrap_i64]; omega))
        · exact hK'
      | 4, ho, hun, hdep, hK, hfl, _ =>
        obtain rfl := Option.some.inj ho
        have d3 : lp.getD 3 false = true := hdep { on := 3, ground := .data } (by simp) rfl
        have e14 : a'.tmps[14]? = some (.pointer (some ⟨SB, 1, none⟩)) := (hS.don 3 _ 14 rfl d3 rfl).trans (by simp only [putAll, Act.put, List.setIfInBounds_toArray, List.set_cons_zero, List.set_cons_succ]; rfl)
        have hap : lp.getD 7 false = false := by
          cases h : lp.getD 7 false with
          | false => rfl
          | true => have := hR.p3 h; rw [hun] at this; cases this
        have k1 := (hR.a hap).1.m
        have hK' := hK g w' (fun _ _ _ _ _ _ => rfl) (by rw [hfl 5 (by decide), hfl 6 (by decide), hfl 7 (by decide), hfl 10 (by decide), getD_set_same (by rw [hsz]; decide)]; exact hR.setld) (.slice mo 0 mc) (by simp only [valO, Option.bind_some]; (try simp only [putAll, Act.put, List.setIfInBounds_toArray, List.set_cons_zero, List.set_cons_succ]); (try rfl))
        clear hS hdep hR
        refine gh_quiet14 (v := .slice mo 0 mc) ?_ ?_
        · (simp only [execOp, Act.eval, e14]; go_simp; first | done | (simp; done) | (simp [*]; done) | omega | (rw [IntKind.wrap_i64]; omega))
        · exact hK'
      | 5, ho, hun, hdep, hK, hfl, _ =>
        obtain rfl := Option.some.inj ho
        have hap : lp.getD 7 false = false := by
          cases h : lp.getD 7 false with
          | false => rfl
          | true => have := hR.p4 (hR.p1 h); rw [hun] at this; cases this
        have KC := HU.out w' (hR.a hap).1.lo
        clear hdep
        unfold Oper.wp
        simp only [execOp, Act.eval, Array.getD_eq_getD_getElem?]
        simp [go_sem, Oper.upon]
        refine KC.mono ?_
        rintro e W2 ⟨rfl, hw2⟩
        replace hw2 := hw2.symm
        subst hw2
        exact hK g w' (fun _ _ _ _ _ _ => rfl) (by rw [hfl 4 (by decide), hfl 6 (by decide), hfl 7 (by decide), hfl 10 (by decide), getD_set_same (by rw [hsz]; decide)]; exact hR.setcl hap (Below.refl _ _)) _ (by simp only [valO, Option.bind_some]; simp only [putAll, Act.put, List.setIfInBounds_toArray, List.set_cons_zero, List.set_cons_succ]; rfl)
      | 6, ho, hun, hdep, hK, hfl, _ =>
        obtain rfl := Option.some.inj ho
        have d5 : lp.getD 5 false = true := hdep { on := 5, ground := .data } (by simp) rfl
        have e16 : a'.tmps[16]? = some (mkS b (0)) := (hS.don 5 _ 16 rfl d5 rfl).trans (by simp only [putAll, Act.put, List.setIfInBounds_toArray, List.set_cons_zero, List.set_cons_succ]; rfl)
        have hap : lp.getD 7 false = false := by
          cases h : lp.getD 7 false with
          | false => rfl
          | true => have := hR.p1 h; rw [hun] at this; cases this
        have hK' := hK (w'.heap.size, g.2) (w'.alloc (.cells #[mkS b (0)] 50)) (fun k' ok s hk hl hd => gh_same14 (d := 17) (s := s) (by simp only [putAll, Act.put, List.setIfInBounds_toArray, List.set_cons_zero, List.set_cons_succ]; rfl) (by rintro rfl; have := dstG_of (by kernel_rfl) k' 6 ok _ 17 hk rfl hd rfl; subst this; rw [hun] at hl; cases hl)) (by rw [hfl 4 (by decide), hfl 5 (by decide), hfl 7 (by decide), hfl 10 (by decide), getD_set_same (by rw [hsz]; decide)]; exact hR.build hap d5) (.slice (some ⟨w'.heap.size, 0, none⟩) 1 1) (by simp only [valO, Option.bind_some]; simp only [putAll, Act.put, List.setIfInBounds_toArray, List.set_cons_zero, List.set_cons_succ]; rfl)
        clear hS hdep hR hK
        unfold Oper.wp
        simp only [execOp, Act.eval, Array.getD_eq_getD_getElem?]
        simp [go_sem, e16, Oper.upon]
        exact hK'
      | 7, ho, hun, hdep, hK, hfl, _ =>
        obtain rfl := Option.some.inj ho
        have d4 : lp.getD 4 false = true := hdep { on := 4, ground := .data } (by simp) rfl
        have e15 : a'.tmps[15]? = some (.slice mo 0 mc) := (hS.don 4 _ 15 rfl d4 rfl).trans (by simp only [putAll, Act.put, List.setIfInBounds_toArray, List.set_cons_zero, List.set_cons_succ]; rfl)
        have d6 : lp.getD 6 false = true := hdep { on := 6, ground := .data } (by simp) rfl
        have e17 : a'.tmps[17]? = some (.slice (some ⟨g.1, 0, none⟩) 1 1) := (hS.don 6 _ 17 rfl d6 rfl).trans (by simp only [putAll, Act.put, List.setIfInBounds_toArray, List.set_cons_zero, List.set_cons_succ]; rfl)
        obtain ⟨r1, r2⟩ := hR.a hun
        have hN := hR.d d6 hun
        refine wp_append_lies w' (.tmp 15) (.tmp 17) 64 rfl (SB + 1) 50 j0 (.int .u32 0) 1 4 Tryd.underlying64 ji jz0 jz1 jz2 rfl (by decide) (.slice mo 0 mc) (0) ((List.range (0)).map (mkS b)) (by simp [Act.eval, e15]) r1.o ⟨g.1, 0, none⟩ 1 1 [mkS b (0)] (by simp [Act.eval, e17]) rfl (news13 hN) (by intro u hu; simp at hu; subst hu; rfl) (by decide) (by unfold maxLen; have := HKb.out; omega) (by have := HKb.out; omega) (by have := cell_in r1.m; omega) _ rfl ?_
        intro gg cap W5 ho hg hat _
        have ho' : W5.ownsRow (SB + 1) 50 1 (.slice (some ⟨gg, 0, none⟩) ((0) + 1) cap) ((0) + 1) ((List.range ((0) + 1)).map (mkS b)) := by rw [List.range_succ, List.map_append]; exact ho
        exact hK (g.1, (gg, cap)) W5 (fun k' ok s hk hl hd => gh_same14 (d := 18) (s := s) (by simp only [putAll, Act.put, List.setIfInBounds_toArray, List.set_cons_zero, List.set_cons_succ]; rfl) (by rintro rfl; have := dstG_of (by kernel_rfl) k' 7 ok _ 18 hk rfl hd rfl; subst this; rw [hun] at hl; cases hl)) (by rw [hfl 4 (by decide), hfl 5 (by decide), hfl 6 (by decide), hfl 10 (by decide), getD_set_same (by rw [hsz]; decide)]; exact hR.app hun d4 d6 ho' hg hat) _ (by simp only [valO, Option.bind_some]; simp only [putAll, Act.put, List.setIfInBounds_toArray, List.set_cons_zero, List.set_cons_succ]; rfl)
      | 8, ho, hun, hdep, hK, hfl, _ =>
        obtain rfl := Option.some.inj ho
        have d0 : lp.getD 0 false = true := hdep { on := 0, ground := .data } (by simp) rfl
        have e11 : a'.tmps[11]? = some (.pointer (some ⟨SB, 0, none⟩)) := (hS.don 0 _ 11 rfl d0 rfl).trans (by simp only [putAll, Act.put, List.setIfInBounds_toArray, List.set_cons_zero, List.set_cons_succ]; rfl)
        have hK' := hK g w' (fun _ _ _ _ _ _ => rfl) (by rw [hfl 4 (by decide), hfl 5 (by decide), hfl 6 (by decide), hfl 7 (by decide), hfl 10 (by decide)]; exact hR) (.pointer (some ⟨SB, 0, none⟩)) (by simp only [valO, Option.bind_some]; (try simp only [putAll, Act.put, List.setIfInBounds_toArray, List.set_cons_zero, List.set_cons_succ]); (try rfl))
        clear hS hdep hR
        refine gh_quiet14 (v := .pointer (some ⟨SB, 0, none⟩)) ?_ ?_
        · (simp only [execOp, Act.eval, e11]; go_simp; first | done | (simp; done) | (simp [*]; done) | omega | (rw [IntKind.wrap_i64]; omega))
        · exact hK'
      | 9, ho, hun, hdep, hK, hfl, _ =>
        obtain rfl := Option.some.inj ho
        have d8 : lp.getD 8 false = true := hdep { on := 8, ground := .data } (by simp) rfl
        have e19 : a'.tmps[19]? = some (.pointer (some ⟨SB, 0, none⟩)) := (hS.don 8 _ 19 rfl d8 rfl).trans (by simp only [putAll, Act.put, List.setIfInBounds_toArray, List.set_cons_zero, List.set_cons_succ]; rfl)
        have hK' := hK g w' (fun _ _ _ _ _ _ => rfl) (by rw [hfl 4 (by decide), hfl 5 (by decide), hfl 6 (by decide), hfl 7 (by decide), hfl 10 (by decide)]; exact hR) (.pointer (some ⟨SB, 1, none⟩)) (by simp only [valO, Option.bind_some]; (try simp only [putAll, Act.put, List.setIfInBounds_toArray, List.set_cons_zero, List.set_cons_succ]); (try rfl))
        clear hS hdep hR
        refine gh_quiet14 (v := .pointer (some ⟨SB, 1, none⟩)) ?_ ?_
        · (simp only [execOp, Act.eval, e19]; go_simp; first | done | (simp; done) | (simp [*]; done) | omega | (rw [IntKind.wrap_i64]; omega))
        · exact hK'
      | 10, ho, hun, hdep, hK, hfl, _ =>
        obtain rfl := Option.some.inj ho
        have d9 : lp.getD 9 false = true := hdep { on := 9, ground := .data } (by simp) rfl
        have e20 : a'.tmps[20]? = some (.pointer (some ⟨SB, 1, none⟩)) := (hS.don 9 _ 20 rfl d9 rfl).trans (by simp only [putAll, Act.put, List.setIfInBounds_toArray, List.set_cons_zero, List.set_cons_succ]; rfl)
        have d7 : lp.getD 7 false = true := hdep { on := 7, ground := .data } (by simp) rfl
        have e18 : a'.tmps[18]? = some (.slice (some ⟨g.2.1, 0, none⟩) (0 + 1) g.2.2) := (hS.don 7 _ 18 rfl d7 rfl).trans (by simp only [putAll, Act.put, List.setIfInBounds_toArray, List.set_cons_zero, List.set_cons_succ]; rfl)
        have hc := hR.c d7 hun
        have k1 := hc.2.2.2.1
        have kf := hc.2.2.2.2.1
        have hK' := hK g (w'.setCell ⟨SB, 1, none⟩ (.slice (some ⟨g.2.1, 0, none⟩) (0 + 1) g.2.2)) (fun _ _ _ _ _ _ => rfl) (by rw [hfl 4 (by decide), hfl 5 (by decide), hfl 6 (by decide), hfl 7 (by decide), getD_set_same (by rw [hsz]; decide)]; exact hR.sto d7 hun) undef rfl
        clear hS hdep hR hK hc
        unfold Oper.wp
        simp only [execOp, Act.eval, Array.getD_eq_getD_getElem?]
        simp [go_sem, e20, e18, k1, kf, Oper.upon]
        exact hK'
      | n + 11, ho, hun, hdep, hK, hfl, hq => exact absurd hq (by omega)
    case fin1 =>
      intro g V8 hR
      obtain ⟨hs8, hf8⟩ := hR.e (by simp)
      have HS8 := hid13 hs8
      have HF8 := hid13 hf8
      have y8 := hs8.m
      simp only [putAll, Act.put, List.setIfInBounds_toArray, List.set_cons_zero, List.set_cons_succ]
      clear hR hs8 hf8 HS HR0 y1
      go_wp2_with fail
      go_loopg [4] (n + 1 - 1) (fun g a wr => ∃ (kk : Nat) (vv : Value), 0 < kk ∧ a = .int .i64 ((kk : Int) - 1) ∧ g = n + 1 - kk ∧ Hid (SmV w0 SB (.slice ao b.length cc) b kk vv wr) ∧ Hid (Fr7 SB (.slice mo 0 mc) Xi vv wr) ∧ Hid (kk ≤ b.length + 1))
      case atStart => exact ⟨1, _, by omega, by first | rfl | (congr 1; omega) | (rw [wk]), rfl, HS8, HF8, hid13 (by omega)⟩
      case round =>
        obtain ⟨kk, vv, hkk, rfl, rfl, HSk, HFr, HKk⟩ := hrel
        by_cases hlt : kk ≤ n
        · obtain ⟨gv, cv, hvv, -, -⟩ := HSk.out.o.form (by omega)
          subst hvv
          have HMs : Hid (kk < n + 1 ∧ kk + 1 ≤ b.length + 1) := ⟨by omega, by have := HN.out; omega⟩
          have HKb : Hid (kk + 1 ≤ b.length + 1 ∧ b.length ≤ 140737480000000 / 4) := ⟨HMs.out.2, HLb.out⟩
          have hlt' : ((kk : Int) - 1) < (n : Int) := by omega
          have wl : wrap64 ((kk : Int) - 1 + 1) = (kk : Int) := by unfold wrap64; have := HKb.out; omega
          have wl2 : IntKind.i64.wrap ((kk : Int) - 1 + 1) = (kk : Int) := by rw [IntKind.wrap_i64]; have := HKb.out; omega
          obtain ⟨q256, hq256⟩ : ∃ q : Int, q = (kk : Int) * 256 := ⟨_, rfl⟩
          have wq : IntKind.i64.wrap ((kk : Int) * 256) = q256 := by rw [IntKind.wrap_i64]; have := HKb.out; omega
          have HAf : Hid (∀ Y, SmV w0 SB (.slice ao b.length cc) b kk (.slice (some ⟨gv, 0, none⟩) kk cv) Y → Calls Tryd.prog 49 #[.pointer (some ⟨SB, 0, none⟩), .int .i64 ((kk : Int) - 1), .int .i64 q256] Y fun e Y' => e = .returned (mkS b kk) ∧ Below Y.heap.size Y Y') := hid13 (fun Y hY => by
            have h := after_any17 w0 SB ao cc b kk _ Y hY HT.out HV.out (by have := HLb.out; omega) HX.out (kk - 1) (256 * kk) (by omega) (by omega) (by have := HN.out; have := HMs.out; omega)
            rw [show (((kk - 1 : Nat)) : Int) = (kk : Int) - 1 by omega, show ((256 * kk : Nat) : Int) = q256 by rw [hq256]; push_cast; omega] at h
            exact h)
          obtain ⟨lst, hls⟩ : ∃ x : Int, x = (kk : Int) - 1 := ⟨_, rfl⟩
          rw [← hls] at HAf hlt' wl wl2
          have hls' := hid13 hls
          have HR0 : Hid (RM7 w0 SB (.slice ao b.length cc) b kk (.slice (some ⟨gv, 0, none⟩) kk cv) wr false false false false false (0, (0, 0)) wr.drew) := ⟨fun _ => ⟨HSk.out.below (below_drewN (Below.refl _ _) 1), Fr7.below (below_drewN (Below.refl _ _) 1)⟩, fun h => (by cases h), fun h => (by cases h), fun h => (by cases h), fun h => (by cases h), fun h => (by cases h), fun h => (by cases h), fun h => (by cases h)⟩
          rw [← hls]
          clear hlt HSk hkk hq256 hls
          go_wp2_with fail
          refine gh_region (γ := Nat × (Nat × Nat)) (qpOk 16 16 (by decide) (fun N => by kernel_rfl) (by kernel_rfl) (by kernel_rfl) (by kernel_rfl) (by kernel_rfl)) (by kernel_rfl) (by kernel_rfl) [some 32, some 33, some 34, some 35, some 36, some 37, some 38, some 39, some 40, some 41, some 42, some 43, some 44, some 45, some 46, none] (fun g => [.pointer (some ⟨SB, 0, none⟩), .pointer (some ⟨SB, 0, none⟩), .pointer (some ⟨SB, 0, none⟩), .pointer (some ⟨SB, 1, none⟩), .slice (some ⟨gv, 0, none⟩) kk cv, .pointer (some ⟨SB, 0, none⟩), .int .i64 lst, .int .i64 lst, .int .i64 (kk : Int), .int .i64 q256, mkS b (kk), .slice (some ⟨g.1, 0, none⟩) 1 1, .slice (some ⟨g.2.1, 0, none⟩) (kk + 1) g.2.2, .pointer (some ⟨SB, 0, none⟩), .pointer (some ⟨SB, 1, none⟩), undef]) (by kernel_rfl) (by simp) (fun lp g X => RM7 w0 SB (.slice ao b.length cc) b (kk) (.slice (some ⟨gv, 0, none⟩) kk cv) wr (lp.getD 4 false) (lp.getD 10 false) (lp.getD 11 false) (lp.getD 12 false) (lp.getD 15 false) g X) (0, (0, 0)) HR0.out ?step5 ?fin5
          case step5 =>
            intro q o lp g w' a' ho hsz hun hdep hR hS K Q' hK
            have hfl : ∀ j, j ≠ q → (lp.setIfInBounds q true).getD j false = lp.getD j false := fun j hj => by rw [Array.getD_eq_getD_getElem?, Array.getD_eq_getD_getElem?, Array.getElem?_setIfInBounds_ne (by omega)]
            have hq : q < 16 := (List.getElem?_eq_some_iff.mp ho).1
            match q, ho, hun, hdep, hK, hfl, hq with
            | 0, ho, hun, hdep, hK, hfl, _ =>
              obtain rfl := Option.some.inj ho
              have o0 : a'.tmps[0]? = some (.pointer (some ⟨SB, 0, none⟩)) := (hS.old14 0 (by simp)).trans rfl
              have hK' := hK g w' (fun _ _ _ _ _ _ => rfl) (by rw [hfl 4 (by decide), hfl 10 (by decide), hfl 11 (by decide), hfl 12 (by decide), hfl 15 (by decide)]; exact hR) (.pointer (some ⟨SB, 0, none⟩)) (by simp only [valO, Option.bind_some]; (try simp only [putAll, Act.put, List.setIfInBounds_toArray, List.set_cons_zero, List.set_cons_succ]); (try rfl))
              clear hS hdep hR
              refine gh_quiet14 (v := .pointer (some ⟨SB, 0, none⟩)) ?_ ?_
              · (simp only [execOp, Act.eval, o0]; go_simp; first | done | (simp; done) | (simp [*]; done) | omega | (rw [IntKind.wrap_i64]; omega))
              · exact hK'
            | 1, ho, hun, hdep, hK, hfl, _ =>
              obtain rfl := Option.some.inj ho
              have o0 : a'.tmps[0]? = some (.pointer (some ⟨SB, 0, none⟩)) := (hS.old14 0 (by simp)).trans rfl
              have hK' := hK g w' (fun _ _ _ _ _ _ => rfl) (by rw [hfl 4 (by decide), hfl 10 (by decide), hfl 11 (by decide), hfl 12 (by decide), hfl 15 (by decide)]; exact hR) (.pointer (some ⟨SB, 0, none⟩)) (by simp only [valO, Option.bind_some]; (try simp only [putAll, Act.put, List.setIfInBounds_toArray, List.set_cons_zero, List.set_cons_succ]); (try rfl))
              clear hS hdep hR
              refine gh_quiet14 (v := .pointer (some ⟨SB, 0, none⟩)) ?_ ?_
              · (simp only [execOp, Act.eval, o0]; go_simp; first | done | (simp; done) | (simp [*]; done) | omega | (rw [IntKind.wrap_i64]; omega))
              · exact hK'
            | 2, ho, hun, hdep, hK, hfl, _ =>
              obtain rfl := Option.some.inj ho
              have d1 : lp.getD 1 false = true := hdep { on := 1, ground := .data } (by simp) rfl
              have e33 : a'.tmps[33]? = some (.pointer (some ⟨SB, 0, none⟩)) := (hS.don 1 _ 33 rfl d1 rfl).trans (by simp only [putAll, Act.put, List.setIfInBounds_toArray, List.set_cons_zero, List.set_cons_succ]; rfl)
              have hK' := hK g w' (fun _ _ _ _ _ _ => rfl) (by rw [hfl 4 (by decide), hfl 10 (by decide), hfl 11 (by decide), hfl 12 (by decide), hfl 15 (by decide)]; exact hR) (.pointer (some ⟨SB, 0, none⟩)) (by simp only [valO, Option.bind_some]; (try simp only [putAll, Act.put, List.setIfInBounds_toArray, List.set_cons_zero, List.set_cons_succ]); (try rfl))
              clear hS hdep hR
              refine gh_quiet14 (v := .pointer (some ⟨SB, 0, none⟩)) ?_ ?_
              · (simp only [execOp, Act.eval, e33]; go_simp; first | done | (simp; done) | (simp [*]; done) | omega | (rw [IntKind.wrap_i64]; omega))
              · exact hK'
            | 3, ho, hun, hdep, hK, hfl, _ =>
              obtain rfl := Option.some.inj ho
              have d2 : lp.getD 2 false = true := hdep { on := 2, ground := .data } (by simp) rfl
              have e34 : a'.tmps[34]? = some (.pointer (some ⟨SB, 0, none⟩)) := (hS.don 2 _ 34 rfl d2 rfl).trans (by simp only [putAll, Act.put, List.setIfInBounds_toArray, List.set_cons_zero, List.set_cons_succ]; rfl)
              have hK' := hK g w' (fun _ _ _ _ _ _ => rfl) (by rw [hfl 4 (by decide), hfl 10 (by decide), hfl 11 (by decide), hfl 12 (by decide), hfl 15 (by decide)]; exact hR) (.pointer (some ⟨SB, 1, none⟩)) (by simp only [valO, Option.bind_some]; (try simp only [putAll, Act.put, List.setIfInBounds_toArray, List.set_cons_zero, List.set_cons_succ]); (try rfl))
              clear hS hdep hR
              refine gh_quiet14 (v := .pointer (some ⟨SB, 1, none⟩)) ?_ ?_
              · (simp only [execOp, Act.eval, e34]; go_simp; first | done | (simp; done) | (simp [*]; done) | omega | (rw [IntKind.wrap_i64]; omega))
              · exact hK'
            | 4, ho, hun, hdep, hK, hfl, _ =>
              obtain rfl := Option.some.inj ho
              have d3 : lp.getD 3 false = true := hdep { on := 3, ground := .data } (by simp) rfl
              have e35 : a'.tmps[35]? = some (.pointer (some ⟨SB, 1, none⟩)) := (hS.don 3 _ 35 rfl d3 rfl).trans (by simp only [putAll, Act.put, List.setIfInBounds_toArray, List.set_cons_zero, List.set_cons_succ]; rfl)
              have hap : lp.getD 12 false = false := by
                cases h : lp.getD 12 false with
                | false => rfl
                | true => have := hR.p3 h; rw [hun] at this; cases this
              have k1 := (hR.a hap).1.m
              have hK' := hK g w' (fun _ _ _ _ _ _ => rfl) (by rw [hfl 10 (by decide), hfl 11 (by decide), hfl 12 (by decide), hfl 15 (by decide), getD_set_same (by rw [hsz]; decide)]; exact hR.setld) (.slice (some ⟨gv, 0, none⟩) kk cv) (by simp only [valO, Option.bind_some]; (try simp only [putAll, Act.put, List.setIfInBounds_toArray, List.set_cons_zero, List.set_cons_succ]); (try rfl))
              clear hS hdep hR
              refine gh_quiet14 (v := .slice (some ⟨gv, 0, none⟩) kk cv) ?_ ?_
              · (simp only [execOp, Act.eval, e35]; go_simp; first | done | (simp; done) | (simp [*]; done) | omega | (rw [IntKind.wrap_i64]; omega))
              · exact hK'
            | 5, ho, hun, hdep, hK, hfl, _ =>
              obtain rfl := Option.some.inj ho
              have o0 : a'.tmps[0]? = some (.pointer (some ⟨SB, 0, none⟩)) := (hS.old14 0 (by simp)).trans rfl
              have hK' := hK g w' (fun _ _ _ _ _ _ => rfl) (by rw [hfl 4 (by decide), hfl 10 (by decide), hfl 11 (by decide), hfl 12 (by decide), hfl 15 (by decide)]; exact hR) (.pointer (some ⟨SB, 0, none⟩)) (by simp only [valO, Option.bind_some]; (try simp only [putAll, Act.put, List.setIfInBounds_toArray, List.set_cons_zero, List.set_cons_succ]); (try rfl))
              clear hS hdep hR
              refine gh_quiet14 (v := .pointer (some ⟨SB, 0, none⟩)) ?_ ?_
              · (simp only [execOp, Act.eval, o0]; go_simp; first | done | (simp; done) | (simp [*]; done) | omega | (rw [IntKind.wrap_i64]; omega))
              · exact hK'
            | 6, ho, hun, hdep, hK, hfl, _ =>
              obtain rfl := Option.some.inj ho
              have o4 : a'.tmps[4]? = some (.int .i64 lst) := (hS.old14 4 (by simp)).trans rfl
              have hK' := hK g w' (fun _ _ _ _ _ _ => rfl) (by rw [hfl 4 (by decide), hfl 10 (by decide), hfl 11 (by decide), hfl 12 (by decide), hfl 15 (by decide)]; exact hR) (.int .i64 lst) (by simp only [valO, Option.bind_some]; (try simp only [putAll, Act.put, List.setIfInBounds_toArray, List.set_cons_zero, List.set_cons_succ]); (try rfl))
              clear hS hdep hR
              refine gh_quiet14 (v := .int .i64 lst) ?_ ?_
              · (simp only [execOp, Act.eval, o4]; go_simp; first | done | (simp; done) | (simp [*]; done) | omega | (rw [IntKind.wrap_i64]; omega))
              · exact hK'
            | 7, ho, hun, hdep, hK, hfl, _ =>
              obtain rfl := Option.some.inj ho
              have o4 : a'.tmps[4]? = some (.int .i64 lst) := (hS.old14 4 (by simp)).trans rfl
              have hK' := hK g w' (fun _ _ _ _ _ _ => rfl) (by rw [hfl 4 (by decide), hfl 10 (by decide), hfl 11 (by decide), hfl 12 (by decide), hfl 15 (by decide)]; exact hR) (.int .i64 lst) (by simp only [valO, Option.bind_some]; (try simp only [putAll, Act.put, List.setIfInBounds_toArray, List.set_cons_zero, List.set_cons_succ]); (try rfl))
              clear hS hdep hR
              refine gh_quiet14 (v := .int .i64 lst) ?_ ?_
              · (simp only [execOp, Act.eval, o4]; go_simp; first | done | (simp; done) | (simp [*]; done) | omega | (rw [IntKind.wrap_i64]; omega))
              · exact hK'
            | 8, ho, hun, hdep, hK, hfl, _ =>
              obtain rfl := Option.some.inj ho
              have d7 : lp.getD 7 false = true := hdep { on := 7, ground := .data } (by simp) rfl
              have e39 : a'.tmps[39]? = some (.int .i64 lst) := (hS.don 7 _ 39 rfl d7 rfl).trans (by simp only [putAll, Act.put, List.setIfInBounds_toArray, List.set_cons_zero, List.set_cons_succ]; rfl)
              have hK' := hK g w' (fun _ _ _ _ _ _ => rfl) (by rw [hfl 4 (by decide), hfl 10 (by decide), hfl 11 (by decide), hfl 12 (by decide), hfl 15 (by decide)]; exact hR) (.int .i64 (kk : Int)) (by simp only [valO, Option.bind_some]; (try simp only [putAll, Act.put, List.setIfInBounds_toArray, List.set_cons_zero, List.set_cons_succ]); (try rfl))
              clear hS hdep hR
              refine gh_quiet14 (v := .int .i64 (kk : Int)) ?_ ?_
              · (simp only [execOp, Act.eval, e39]; go_simp; first | done | (simp; done) | (simp [*]; done) | omega | (rw [IntKind.wrap_i64]; omega))
              · exact hK'
            | 9, ho, hun, hdep, hK, hfl, _ =>
              obtain rfl := Option.some.inj ho
              have d8 : lp.getD 8 false = true := hdep { on := 8, ground := .data } (by simp) rfl
              have e40 : a'.tmps[40]? = some (.int .i64 (kk : Int)) := (hS.don 8 _ 40 rfl d8 rfl).trans (by simp only [putAll, Act.put, List.setIfInBounds_toArray, List.set_cons_zero, List.set_cons_succ]; rfl)
              have hK' := hK g w' (fun _ _ _ _ _ _ => rfl) (by rw [hfl 4 (by decide), hfl 10 (by decide), hfl 11 (by decide), hfl 12 (by decide), hfl 15 (by decide)]; exact hR) (.int .i64 q256) (by simp only [valO, Option.bind_some]; (try simp only [putAll, Act.put, List.setIfInBounds_toArray, List.set_cons_zero, List.set_cons_succ]); (try rfl))
              clear hS hdep hR
              refine gh_quiet14 (v := .int .i64 q256) ?_ ?_
              · (simp only [execOp, Act.eval, e40]; go_simp; first | done | (simp; done) | (simp [*]; done) | omega | (rw [IntKind.wrap_i64]; omega))
              · exact hK'
            | 10, ho, hun, hdep, hK, hfl, _ =>
              obtain rfl := Option.some.inj ho
              have d5 : lp.getD 5 false = true := hdep { on := 5, ground := .data } (by simp) rfl
              have e37 : a'.tmps[37]? = some (.pointer (some ⟨SB, 0, none⟩)) := (hS.don 5 _ 37 rfl d5 rfl).trans (by simp only [putAll, Act.put, List.setIfInBounds_toArray, List.set_cons_zero, List.set_cons_succ]; rfl)
              have d6 : lp.getD 6 false = true := hdep { on := 6, ground := .data } (by simp) rfl
              have e38 : a'.tmps[38]? = some (.int .i64 lst) := (hS.don 6 _ 38 rfl d6 rfl).trans (by simp only [putAll, Act.put, List.setIfInBounds_toArray, List.set_cons_zero, List.set_cons_succ]; rfl)
              have d9 : lp.getD 9 false = true := hdep { on := 9, ground := .data } (by simp) rfl
              have e41 : a'.tmps[41]? = some (.int .i64 q256) := (hS.don 9 _ 41 rfl d9 rfl).trans (by simp only [putAll, Act.put, List.setIfInBounds_toArray, List.set_cons_zero, List.set_cons_succ]; rfl)
              have hap : lp.getD 12 false = false := by
                cases h : lp.getD 12 false with
                | false => rfl
                | true => have := hR.p4 (hR.p1 h); rw [hun] at this; cases this
              have KC := HAf.out w' (hR.a hap).1
              clear hdep
              unfold Oper.wp
              simp only [execOp, Act.eval, Array.getD_eq_getD_getElem?]
              simp [go_sem, e37, e38, e41, Oper.upon]
              refine KC.mono ?_
              rintro e W2 ⟨rfl, hb⟩
              exact hK g W2 (fun _ _ _ _ _ _ => rfl) (by rw [hfl 4 (by decide), hfl 11 (by decide), hfl 12 (by decide), hfl 15 (by decide), getD_set_same (by rw [hsz]; decide)]; exact hR.setcl hap hb) _ (by simp only [valO, Option.bind_some]; simp only [putAll, Act.put, List.setIfInBounds_toArray, List.set_cons_zero, List.set_cons_succ]; rfl)
            | 11, ho, hun, hdep, hK, hfl, _ =>
              obtain rfl := Option.some.inj ho
              have d10 : lp.getD 10 false = true := hdep { on := 10, ground := .data } (by simp) rfl
              have e42 : a'.tmps[42]? = some (mkS b (kk)) := (hS.don 10 _ 42 rfl d10 rfl).trans (by simp only [putAll, Act.put, List.setIfInBounds_toArray, List.set_cons_zero, List.set_cons_succ]; rfl)
              have hap : lp.getD 12 false = false := by
                cases h : lp.getD 12 false with
                | false => rfl
                | true => have := hR.p1 h; rw [hun] at this; cases this
              have hK' := hK (w'.heap.size, g.2) (w'.alloc (.cells #[mkS b (kk)] 50)) (fun k' ok s hk hl hd => gh_same14 (d := 43) (s := s) (by simp only [putAll, Act.put, List.setIfInBounds_toArray, List.set_cons_zero, List.set_cons_succ]; rfl) (by rintro rfl; have := dstG_of (by kernel_rfl) k' 11 ok _ 43 hk rfl hd rfl; subst this; rw [hun] at hl; cases hl)) (by rw [hfl 4 (by decide), hfl 10 (by decide), hfl 12 (by decide), hfl 15 (by decide), getD_set_same (by rw [hsz]; decide)]; exact hR.build hap d10) (.slice (some ⟨w'.heap.size, 0, none⟩) 1 1) (by simp only [valO, Option.bind_some]; simp only [putAll, Act.put, List.setIfInBounds_toArray, List.set_cons_zero, List.set_cons_succ]; rfl)
              clear hS hdep hR hK
              unfold Oper.wp
              simp only [execOp, Act.eval, Array.getD_eq_getD_getElem?]
              simp [go_sem, e42, Oper.upon]
              exact hK'
            | 12, ho, hun, hdep, hK, hfl, _ =>
              obtain rfl := Option.some.inj ho
              have d4 : lp.getD 4 false = true := hdep { on := 4, ground := .data } (by simp) rfl
              have e36 : a'.tmps[36]? = some (.slice (some ⟨gv, 0, none⟩) kk cv) := (hS.don 4 _ 36 rfl d4 rfl).trans (by simp only [putAll, Act.put, List.setIfInBounds_toArray, List.set_cons_zero, List.set_cons_succ]; rfl)
              have d11 : lp.getD 11 false = true := hdep { on := 11, ground := .data } (by simp) rfl
              have e43 : a'.tmps[43]? = some (.slice (some ⟨g.1, 0, none⟩) 1 1) := (hS.don 11 _ 43 rfl d11 rfl).trans (by simp only [putAll, Act.put, List.setIfInBounds_toArray, List.set_cons_zero, List.set_cons_succ]; rfl)
              obtain ⟨r1, r2⟩ := hR.a hun
              have hN := hR.d d11 hun
              refine wp_append_lies w' (.tmp 36) (.tmp 43) 64 rfl (SB + 1) 50 j0 (.int .u32 0) 1 4 Tryd.underlying64 ji jz0 jz1 jz2 rfl (by decide) (.slice (some ⟨gv, 0, none⟩) kk cv) (kk) ((List.range (kk)).map (mkS b)) (by simp [Act.eval, e36]) r1.o ⟨g.1, 0, none⟩ 1 1 [mkS b (kk)] (by simp [Act.eval, e43]) rfl (news13 hN) (by intro u hu; simp at hu; subst hu; rfl) (by decide) (by unfold maxLen; have := HKb.out; omega) (by have := HKb.out; omega) (by have := cell_in r1.m; omega) _ rfl ?_
              intro gg cap W5 ho hg hat _
              have ho' : W5.ownsRow (SB + 1) 50 1 (.slice (some ⟨gg, 0, none⟩) ((kk) + 1) cap) ((kk) + 1) ((List.range ((kk) + 1)).map (mkS b)) := by rw [List.range_succ, List.map_append]; exact ho
              exact hK (g.1, (gg, cap)) W5 (fun k' ok s hk hl hd => gh_same14 (d := 44) (s := s) (by simp only [putAll, Act.put, List.setIfInBounds_toArray, List.set_cons_zero, List.set_cons_succ]; rfl) (by rintro rfl; have := dstG_of (by kernel_rfl) k' 12 ok _ 44 hk rfl hd rfl; subst this; rw [hun] at hl; cases hl)) (by rw [hfl 4 (by decide), hfl 10 (by decide), hfl 11 (by decide), hfl 15 (by decide), getD_set_same (by rw [hsz]; decide)]; exact hR.app hun d4 d11 ho' hg hat) _ (by simp only [valO, Option.bind_some]; simp only [putAll, Act.put, List.setIfInBounds_toArray, List.set_cons_zero, List.set_cons_succ]; rfl)
            | 13, ho, hun, hdep, hK, hfl, _ =>
              obtain rfl := Option.some.inj ho
              have d0 : lp.getD 0 false = true := hdep { on := 0, ground := .data } (by simp) rfl
              have e32 : a'.tmps[32]? = some (.pointer (some ⟨SB, 0, none⟩)) := (hS.don 0 _ 32 rfl d0 rfl).trans (by simp only [putAll, Act.put, List.setIfInBounds_toArray, List.set_cons_zero, List.set_cons_succ]; rfl)
              have hK' := hK g w' (fun _ _ _ _ _ _ => rfl) (by rw [hfl 4 (by decide), hfl 10 (by decide), hfl 11 (by decide), hfl 12 (by decide), hfl 15 (by decide)]; exact hR) (.pointer (some ⟨SB, 0, none⟩)) (by simp only [valO, Option.bind_some]; (try simp only [putAll, Act.put, List.setIfInBounds_toArray, List.set_cons_zero, List.set_cons_succ]); (try rfl))
              clear hS hdep hR
              refine gh_quiet14 (v := .pointer (some ⟨SB, 0, none⟩)) ?_ ?_
              · (simp only [execOp, Act.eval, e32]; go_simp; first | done | (simp; done) | (simp [*]; done) | omega | (rw [IntKind.wrap_i64]; omega))
              · exact hK'
            | 14, ho, hun, hdep, hK, hfl, _ =>
              obtain rfl := Option.some.inj ho
              have d13 : lp.getD 13 false = true := hdep { on := 13, ground := .data } (by simp) rfl
              have e45 : a'.tmps[45]? = some (.pointer (some ⟨SB, 0, none⟩)) := (hS.don 13 _ 45 rfl d13 rfl).trans (by simp only [putAll, Act.put, List.setIfInBounds_toArray, List.set_cons_zero, List.set_cons_succ]; rfl)
              have hK' := hK g w' (fun _ _ _ _ _ _ => rfl) (by rw [hfl 4 (by decide), hfl 10 (by decide), hfl 11 (by decide), hfl 12 (by decide), hfl 15 (by decide)]; exact hR) (.pointer (some ⟨SB, 1, none⟩)) (by simp only [valO, Option.bind_some]; (try simp only [putAll, Act.put, List.setIfInBounds_toArray, List.set_cons_zero, List.set_cons_succ]); (try rfl))
              clear hS hdep hR
              refine gh_quiet14 (v := .pointer (some ⟨SB, 1, none⟩)) ?_ ?_
              · (simp only [execOp, Act.eval, e45]; go_simp; first | done | (simp; done) | (simp [*]; done) | omega | (rw [IntKind.wrap_i64]; omega))
              · exact hK'
            | 15, ho, hun, hdep, hK, hfl, _ =>
              obtain rfl := Option.some.inj ho
              have d14 : lp.getD 14 false = true := hdep { on := 14, ground := .data } (by simp) rfl
              have e46 : a'.tmps[46]? = some (.pointer (some ⟨SB, 1, none⟩)) := (hS.don 14 _ 46 rfl d14 rfl).trans (by simp only [putAll, Act.put, List.setIfInBounds_toArray, List.set_cons_zero, List.set_cons_succ]; rfl)
              have d12 : lp.getD 12 false = true := hdep { on := 12, ground := .data } (by simp) rfl
              have e44 : a'.tmps[44]? = some (.slice (some ⟨g.2.1, 0, none⟩) (kk + 1) g.2.2) := (hS.don 12 _ 44 rfl d12 rfl).trans (by simp only [putAll, Act.put, List.setIfInBounds_toArray, List.set_cons_zero, List.set_cons_succ]; rfl)
              have hc := hR.c d12 hun
              have k1 := hc.2.2.2.1
              have kf := hc.2.2.2.2.1
              have hK' := hK g (w'.setCell ⟨SB, 1, none⟩ (.slice (some ⟨g.2.1, 0, none⟩) (kk + 1) g.2.2)) (fun _ _ _ _ _ _ => rfl) (by rw [hfl 4 (by decide), hfl 10 (by decide), hfl 11 (by decide), hfl 12 (by decide), getD_set_same (by rw [hsz]; decide)]; exact hR.sto d12 hun) undef rfl
              clear hS hdep hR hK hc
              unfold Oper.wp
              simp only [execOp, Act.eval, Array.getD_eq_getD_getElem?]
              simp [go_sem, e46, e44, k1, kf, Oper.upon]
              exact hK'
            | n + 16, ho, hun, hdep, hK, hfl, hq => exact absurd hq (by omega)
          case fin5 =>
            intro g V8 hR
            obtain ⟨hs8, hf8⟩ := hR.e (by simp)
            have HS8 := hid13 hs8
            have HF8 := hid13 (HFr.out.trans hf8)
            simp only [putAll, Act.put, List.setIfInBounds_toArray, List.set_cons_zero, List.set_cons_succ]
            clear hR hs8 hf8
            go_wp2
            go_roundg (n + 1 - (kk + 1))
            case measure => have := HMs.out; omega
            case rel => exact ⟨kk + 1, _, by omega, by first | rfl | (congr 1; omega) | (rw [wl]; congr 1; omega), rfl, HS8, HF8, hid13 (by have := HMs.out; omega)⟩
        · have hlt' : ¬ ((kk : Int) - 1) < (n : Int) := by omega
          have HE : Hid (n < kk ∧ kk ≤ b.length + 1) := ⟨by omega, HKk.out⟩
          clear hkk hlt
          go_wp2
          exact bodyPost_end (v := .tuple #[]) (by simp [results, Tryd.results48, go_sem]) rfl (by first | exact ⟨rfl, kk, vv, HE.out.1, HE.out.2, HSk.out, HFr.out⟩ | exact ⟨rfl, kk, HE.out.1, HE.out.2, vv, HSk.out, HFr.out⟩)
  · have h0' : ((k : Int) == 0) = false := by simpa using h0
    have HFr0 : Hid (Fr7 SB (.slice mo k mc) Xi (.slice mo k mc) Xi) := Fr7.below (Below.refl _ _)
    have hkp : 0 < k := by omega
    have HKp := hid13 hkp
    have wk : wrap64 ((k : Int) - 1) = (k : Int) - 1 := by unfold wrap64; have := HKb1.out; have := HLb.out; omega
    go_wp2_with fail
    go_loopg [4] (n + 1 - k) (fun g a wr => ∃ (kk : Nat) (vv : Value), 0 < kk ∧ a = .int .i64 ((kk : Int) - 1) ∧ g = n + 1 - kk ∧ Hid (SmV w0 SB (.slice ao b.length cc) b kk vv wr) ∧ Hid (Fr7 SB (.slice mo k mc) Xi vv wr) ∧ Hid (kk ≤ b.length + 1))
    case atStart => exact ⟨k, _, by omega, by first | rfl | (congr 1; omega) | (rw [wk]), rfl, HS, HFr0, HKb1⟩
    case round =>
      obtain ⟨kk, vv, hkk, rfl, rfl, HSk, HFr, HKk⟩ := hrel
      by_cases hlt : kk ≤ n
      · obtain ⟨gv, cv, hvv, -, -⟩ := HSk.out.o.form (by omega)
        subst hvv
        have HMs : Hid (kk < n + 1 ∧ kk + 1 ≤ b.length + 1) := ⟨by omega, by have := HN.out; omega⟩
        have HKb : Hid (kk + 1 ≤ b.length + 1 ∧ b.length ≤ 140737480000000 / 4) := ⟨HMs.out.2, HLb.out⟩
        have hlt' : ((kk : Int) - 1) < (n : Int) := by omega
        have wl : wrap64 ((kk : Int) - 1 + 1) = (kk : Int) := by unfold wrap64; have := HKb.out; omega
        have wl2 : IntKind.i64.wrap ((kk : Int) - 1 + 1) = (kk : Int) := by rw [IntKind.wrap_i64]; have := HKb.out; omega
        obtain ⟨q256, hq256⟩ : ∃ q : Int, q = (kk : Int) * 256 := ⟨_, rfl⟩
        have wq : IntKind.i64.wrap ((kk : Int) * 256) = q256 := by rw [IntKind.wrap_i64]; have := HKb.out; omega
        have HAf : Hid (∀ Y, SmV w0 SB (.slice ao b.length cc) b kk (.slice (some ⟨gv, 0, none⟩) kk cv) Y → Calls Tryd.prog 49 #[.pointer (some ⟨SB, 0, none⟩), .int .i64 ((kk : Int) - 1), .int .i64 q256] Y fun e Y' => e = .returned (mkS b kk) ∧ Below Y.heap.size Y Y') := hid13 (fun Y hY => by
          have h := after_any17 w0 SB ao cc b kk _ Y hY HT.out HV.out (by have := HLb.out; omega) HX.out (kk - 1) (256 * kk) (by omega) (by omega) (by have := HN.out; have := HMs.out; omega)
          rw [show (((kk - 1 : Nat)) : Int) = (kk : Int) - 1 by omega, show ((256 * kk : Nat) : Int) = q256 by rw [hq256]; push_cast; omega] at h
          exact h)
        obtain ⟨lst, hls⟩ : ∃ x : Int, x = (kk : Int) - 1 := ⟨_, rfl⟩
        rw [← hls] at HAf hlt' wl wl2
        have hls' := hid13 hls
        have HR0 : Hid (RM7 w0 SB (.slice ao b.length cc) b kk (.slice (some ⟨gv, 0, none⟩) kk cv) wr false false false false false (0, (0, 0)) wr.drew) := ⟨fun _ => ⟨HSk.out.below (below_drewN (Below.refl _ _) 1), Fr7.below (below_drewN (Below.refl _ _) 1)⟩, fun h => (by cases h), fun h => (by cases h), fun h => (by cases h), fun h => (by cases h), fun h => (by cases h), fun h => (by cases h), fun h => (by cases h)⟩
        rw [← hls]
        clear hlt HSk hkk hq256 hls
        go_wp2_with fail
        refine gh_region (γ := Nat × (Nat × Nat)) (qpOk 16 16 (by decide) (fun N => by kernel_rfl) (by kernel_rfl) (by kernel_rfl) (by kernel_rfl) (by kernel_rfl)) (by kernel_rfl) (by kernel_rfl) [some 32, some 33, some 34, some 35, some 36, some 37, some 38, some 39, some 40, some 41, some 42, some 43, some 44, some 45, some 46, none] (fun g => [.pointer (some ⟨SB, 0, none⟩), .pointer (some ⟨SB, 0, none⟩), .pointer (some ⟨SB, 0, none⟩), .pointer (some ⟨SB, 1, none⟩), .slice (some ⟨gv, 0, none⟩) kk cv, .pointer (some ⟨SB, 0, none⟩), .int .i64 lst, .int .i64 lst, .int .i64 (kk : Int), .int .i64 q256, mkS b (kk), .slice (some ⟨g.1, 0, none⟩) 1 1, .slice (some ⟨g.2.1, 0, none⟩) (kk + 1) g.2.2, .pointer (some ⟨SB, 0, none⟩), .pointer (some ⟨SB, 1, none⟩), undef]) (by kernel_rfl) (by simp) (fun lp g X => RM7 w0 SB (.slice ao b.length cc) b (kk) (.slice (some ⟨gv, 0, none⟩) kk cv) wr (lp.getD 4 false) (lp.getD 10 false) (lp.getD 11 false) (lp.getD 12 false) (lp.getD 15 false) g X) (0, (0, 0)) HR0.out ?step5 ?fin5
        case step5 =>
          intro q o lp g w' a' ho hsz hun hdep hR hS K Q' hK
          have hfl : ∀ j, j ≠ q → (lp.setIfInBounds q true).getD j false = lp.getD j false := fun j hj => by rw [Array.getD_eq_getD_getElem?, Array.getD_eq_getD_getElem?, Array.getElem?_setIfInBounds_ne (by omega)]
          have hq : q < 16 := (List.getElem?_eq_some_iff.mp ho).1
          match q, ho, hun, hdep, hK, hfl, hq with
          | 0, ho, hun, hdep, hK, hfl, _ =>
            obtain rfl := Option.some.inj ho
            have o0 : a'.tmps[0]? = some (.pointer (some ⟨SB, 0, none⟩)) := (hS.old14 0 (by simp)).trans rfl
            have hK' := hK g w' (fun _ _ _ _ _ _ => rfl) (by rw [hfl 4 (by decide), hfl 10 (by decide), hfl 11 (by decide), hfl 12 (by decide), hfl 15 (by decide)]; exact hR) (.pointer (some ⟨SB, 0, none⟩)) (by simp only [valO, Option.bind_some]; (try simp only [putAll, Act.put, List.setIfInBounds_toArray, List.set_cons_zero, List.set_cons_succ]); (try rfl))
            clear hS hdep hR
            refine gh_quiet14 (v := .pointer (some ⟨SB, 0, none⟩)) ?_ ?_
            · (simp only [execOp, Act.eval, o0]; go_simp; first | done | (simp; done) | (simp [*]; done) | omega | (rw [IntKind.wrap_i64]; omega))
            · exact hK'
          | 1, ho, hun, hdep, hK, hfl, _ =>
            obtain rfl := Option.some.inj ho
            have o0 : a'.tmps[0]? = some (.pointer (some ⟨SB, 0, none⟩)) := (hS.old14 0 (by simp)).trans rfl
            have hK' := hK g w' (fun _ _ _ _ _ _ => rfl) (by rw [hfl 4 (by decide), hfl 10 (by decide), hfl 11 (by decide), hfl 12 (by decide), hfl 15 (by decide)]; exact hR) (.pointer (some ⟨SB, 0, none⟩)) (by simp only [valO, Option.bind_some]; (try simp only [putAll, Act.put, List.setIfInBounds_toArray, List.set_cons_zero, List.set_cons_succ]); (try rfl))
            clear hS hdep hR
            refine gh_quiet14 (v := .pointer (some ⟨SB, 0, none⟩)) ?_ ?_
            · (simp only [execOp, Act.eval, o0]; go_simp; first | done | (simp; done) | (simp [*]; done) | omega | (rw [IntKind.wrap_i64]; omega))
            · exact hK'
          | 2, ho, hun, hdep, hK, hfl, _ =>
            obtain rfl := Option.some.inj ho
            have d1 : lp.getD 1 false = true := hdep { on := 1, ground := .data } (by simp) rfl
            have e33 : a'.tmps[33]? = some (.pointer (some ⟨SB, 0, none⟩)) := (hS.don 1 _ 33 rfl d1 rfl).trans (by simp only [putAll, Act.put, List.setIfInBounds_toArray, List.set_cons_zero, List.set_cons_succ]; rfl)
            have hK' := hK g w' (fun _ _ _ _ _ _ => rfl) (by rw [hfl 4 (by decide), hfl 10 (by decide), hfl 11 (by decide), hfl 12 (by decide), hfl 15 (by decide)]; exact hR) (.pointer (some ⟨SB, 0, none⟩)) (by simp only [valO, Option.bind_some]; (try simp only [putAll, Act.put, List.setIfInBounds_toArray, List.set_cons_zero, List.set_cons_succ]); (try rfl))
            clear hS hdep hR
            refine gh_quiet14 (v := .pointer (some ⟨SB, 0, none⟩)) ?_ ?_
            · (simp only [execOp, Act.eval, e33]; go_simp; first | done | (simp; done) | (simp [*]; done) | omega | (rw [IntKind.wrap_i64]; omega))
            · exact hK'
          | 3, ho, hun, hdep, hK, hfl, _ =>
            obtain rfl := Option.some.inj ho
            have d2 : lp.getD 2 false = true := hdep { on := 2, ground := .data } (by simp) rfl
            have e34 : a'.tmps[34]? = some (.pointer (some ⟨SB, 0, none⟩)) := (hS.don 2 _ 34 rfl d2 rfl).trans (by simp only [putAll, Act.put, List.setIfInBounds_toArray, List.set_cons_zero, List.set_cons_succ]; rfl)
            have hK' := hK g w' (fun _ _ _ _ _ _ => rfl) (by rw [hfl 4 (by decide), hfl 10 (by decide), hfl 11 (by decide), hfl 12 (by decide), hfl 15 (by decide)]; exact hR) (.pointer (some ⟨SB, 1, none⟩)) (by simp only [valO, Option.bind_some]; (try simp only [putAll, Act.put, List.setIfInBounds_toArray, List.set_cons_zero, List.set_cons_succ]); (try rfl))
            clear hS hdep hR
            refine gh_quiet14 (v := .pointer (some ⟨SB, 1, none⟩)) ?_ ?_
            · (simp only [execOp, Act.eval, e34]; go_simp; first | done | (simp; done) | (simp [*]; done) | omega | (rw [IntKind.wrap_i64]; omega))
            · exact hK'
          | 4, ho, hun, hdep, hK, hfl, _ =>
            obtain rfl := Option.some.inj ho
            have d3 : lp.getD 3 false = true := hdep { on := 3, ground := .data } (by simp) rfl
            have e35 : a'.tmps[35]? = some (.pointer (some ⟨SB, 1, none⟩)) := (hS.don 3 _ 35 rfl d3 rfl).trans (by simp only [putAll, Act.put, List.setIfInBounds_toArray, List.set_cons_zero, List.set_cons_succ]; rfl)
            have hap : lp.getD 12 false = false := by
              cases h : lp.getD 12 false with
              | false => rfl
              | true => have := hR.p3 h; rw [hun] at this; cases this
            have k1 := (hR.a hap).1.m
            have hK' := hK g w' (fun _ _ _ _ _ _ => rfl) (by rw [hfl 10 (by decide), hfl 11 (by decide), hfl 12 (by decide), hfl 15 (by decide), getD_set_same (by rw [hsz]; decide)]; exact hR.setld) (.slice (some ⟨gv, 0, none⟩) kk cv) (by simp only [valO, Option.bind_some]; (try simp only [putAll, Act.put, List.setIfInBounds_toArray, List.set_cons_zero, List.set_cons_succ]); (try rfl))
            clear hS hdep hR
            refine gh_quiet14 (v := .slice (some ⟨gv, 0, none⟩) kk cv) ?_ ?_
            · (simp only [execOp, Act.eval, e35]; go_simp; first | done | (simp; done) | (simp [*]; done) | omega | (rw [IntKind.wrap_i64]; omega))
            · exact hK'
          | 5, ho, hun, hdep, hK, hfl, _ =>
            obtain rfl := Option.some.inj ho
            have o0 : a'.tmps[0]? = some (.pointer (some ⟨SB, 0, none⟩)) := (hS.old14 0 (by simp)).trans rfl
            have hK' := hK g w' (fun _ _ _ _ _ _ => rfl) (by rw [hfl 4 (by decide), hfl 10 (by decide), hfl 11 (by decide), hfl 12 (by decide), hfl 15 (by decide)]; exact hR) (.pointer (some ⟨SB, 0, none⟩)) (by simp only [valO, Option.bind_some]; (try simp only [putAll, Act.put, List.setIfInBounds_toArray, List.set_cons_zero, List.set_cons_succ]); (try rfl))
            clear hS hdep hR
            refine gh_quiet14 (v := .pointer (some ⟨SB, 0, none⟩)) ?_ ?_
            · (simp only [execOp, Act.eval, o0]; go_simp; first | done | (simp; done) | (simp [*]; done) | omega | (rw [IntKind.wrap_i64]; omega))
            · exact hK'
          | 6, ho, hun, hdep, hK, hfl, _ =>
            obtain rfl := Option.some.inj ho
            have o4 : a'.tmps[4]? = some (.int .i64 lst) := (hS.old14 4 (by simp)).trans rfl
            have hK' := hK g w' (fun _ _ _ _ _ _ => rfl) (by rw [hfl 4 (by decide), hfl 10 (by decide), hfl 11 (by decide), hfl 12 (by decide), hfl 15 (by decide)]; exact hR) (.int .i64 lst) (by simp only [valO, Option.bind_some]; (try simp only [putAll, Act.put, List.setIfInBounds_toArray, List.set_cons_zero, List.set_cons_succ]); (try rfl))
            clear hS hdep hR
            refine gh_quiet14 (v := .int .i64 lst) ?_ ?_
            · (simp only [execOp, Act.eval, o4]; go_simp; first | done | (simp; done) | (simp [*]; done) | omega | (rw [IntKind.wrap_i64]; omega))
            · exact hK'
          | 7, ho, hun, hdep, hK, hfl, _ =>
            obtain rfl := Option.some.inj ho
            have o4 : a'.tmps[4]? = some (.int .i64 lst) := (hS.old14 4 (by simp)).trans rfl
            have hK' := hK g w' (fun _ _ _ _ _ _ => rfl) (by rw [hfl 4 (by decide), hfl 10 (by decide), hfl 11 (by decide), hfl 12 (by decide), hfl 15 (by decide)]; exact hR) (.int .i64 lst) (by simp only [valO, Option.bind_some]; (try simp only [putAll, Act.put, List.setIfInBounds_toArray, List.set_cons_zero, List.set_cons_succ]); (try rfl))
            clear hS hdep hR
            refine gh_quiet14 (v := .int .i64 lst) ?_ ?_
            · (simp only [execOp, Act.eval, o4]; go_simp; first | done | (simp; done) | (simp [*]; done) | omega | (rw [IntKind.wrap_i64]; omega))
            · exact hK'
          | 8, ho, hun, hdep, hK, hfl, _ =>
            obtain rfl := Option.some.inj ho
            have d7 : lp.getD 7 false = true := hdep { on := 7, ground := .data } (by simp) rfl
            have e39 : a'.tmps[39]? = some (.int .i64 lst) := (hS.don 7 _ 39 rfl d7 rfl).trans (by simp only [putAll, Act.put, List.setIfInBounds_toArray, List.set_cons_zero, List.set_cons_succ]; rfl)
            have hK' := hK g w' (fun _ _ _ _ _ _ => rfl) (by rw [hfl 4 (by decide), hfl 10 (by decide), hfl 11 (by decide), hfl 12 (by decide), hfl 15 (by decide)]; exact hR) (.int .i64 (kk : Int)) (by simp only [valO, Option.bind_some]; (try simp only [putAll, Act.put, List.setIfInBounds_toArray, List.set_cons_zero, List.set_cons_succ]); (try rfl))
            clear hS hdep hR
            refine gh_quiet14 (v := .int .i64 (kk : Int)) ?_ ?_
            · (simp only [execOp, Act.eval, e39]; go_simp; first | done | (simp; done) | (simp [*]; done) | omega | (rw [IntKind.wrap_i64]; omega))
            · exact hK'
          | 9, ho, hun, hdep, hK, hfl, _ =>
            obtain rfl := Option.some.inj ho
            have d8 : lp.getD 8 false = true := hdep { on := 8, ground := .data } (by simp) rfl
            have e40 : a'.tmps[40]? = some (.int .i64 (kk : Int)) := (hS.don 8 _ 40 rfl d8 rfl).trans (by simp only [putAll, Act.put, List.setIfInBounds_toArray, List.set_cons_zero, List.set_cons_succ]; rfl)
            have hK' := hK g w' (fun _ _ _ _ _ _ => rfl) (by rw [hfl 4 (by decide), hfl 10 (by decide), hfl 11 (by decide), hfl 12 (by decide), hfl 15 (by decide)]; exact hR) (.int .i64 q256) (by simp only [valO, Option.bind_some]; (try simp only [putAll, Act.put, List.setIfInBounds_toArray, List.set_cons_zero, List.set_cons_succ]); (try rfl))
            clear hS hdep hR
            refine gh_quiet14 (v := .int .i64 q256) ?_ ?_
            · (simp only [execOp, Act.eval, e40]; go_simp; first | done | (simp; done) | (simp [*]; done) | omega | (rw [IntKind.wrap_i64]; omega))
            · exact hK'
          | 10, ho, hun, hdep, hK, hfl, _ =>
            obtain rfl := Option.some.inj ho
            have d5 : lp.getD 5 false = true := hdep { on := 5, ground := .data } (by simp) rfl
            have e37 : a'.tmps[37]? = some (.pointer (some ⟨SB, 0, none⟩)) := (hS.don 5 _ 37 rfl d5 rfl).trans (by simp only [putAll, Act.put, List.setIfInBounds_toArray, List.set_cons_zero, List.set_cons_succ]; rfl)
            have d6 : lp.getD 6 false = true := hdep { on := 6, ground := .data } (by simp) rfl
            have e38 : a'.tmps[38]? = some (.int .i64 lst) := (hS.don 6 _ 38 rfl d6 rfl).trans (by simp only [putAll, Act.put, List.setIfInBounds_toArray, List.set_cons_zero, List.set_cons_succ]; rfl)
            have d9 : lp.getD 9 false = true := hdep { on := 9, ground := .data } (by simp) rfl
            have e41 : a'.tmps[41]? = some (.int .i64 q256) := (hS.don 9 _ 41 rfl d9 rfl).trans (by simp only [putAll, Act.put, List.setIfInBounds_toArray, List.set_cons_zero, List.set_cons_succ]; rfl)
            have hap : lp.getD 12 false = false := by
              cases h : lp.getD 12 false with
              | false => rfl
              | true => have := hR.p4 (hR.p1 h); rw [hun] at this; cases this
            have KC := HAf.out w' (hR.a hap).1
            clear hdep
            unfold Oper.wp
            simp only [execOp, Act.eval, Array.getD_eq_getD_getElem?]
            simp [go_sem, e37, e38, e41, Oper.upon]
            refine KC.mono ?_
            rintro e W2 ⟨rfl, hb⟩
            exact hK g W2 (fun _ _ _ _ _ _ => rfl) (by rw [hfl 4 (by decide), hfl 11 (by decide), hfl 12 (by decide), hfl 15 (by decide), getD_set_same (by rw [hsz]; decide)]; exact hR.setcl hap hb) _ (by simp only [valO, Option.bind_some]; simp only [putAll, Act.put, List.setIfInBounds_toArray, List.set_cons_zero, List.set_cons_succ]; rfl)
          | 11, ho, hun, hdep, hK, hfl, _ =>
            obtain rfl := Option.some.inj ho
            have d10 : lp.getD 10 false = true := hdep { on := 10, ground := .data } (by simp) rfl
            have e42 : a'.tmps[42]? = some (mkS b (kk)) := (hS.don 10 _ 42 rfl d10 rfl).trans (by simp only [putAll, Act.put, List.setIfInBounds_toArray, List.set_cons_zero, List.set_cons_succ]; rfl)
            have hap : lp.getD 12 false = false := by
              cases h : lp.getD 12 false with
              | false => rfl
              | true => have := hR.p1 h; rw [hun] at this; cases this
            have hK' := hK (w'.heap.size, g.2) (w'.alloc (.cells #[mkS b (kk)] 50)) (fun k' ok s hk hl hd => gh_same14 (d := 43) (s := s) (by simp only [putAll, Act.put, List.setIfInBounds_toArray, List.set_cons_zero, List.set_cons_succ]; rfl) (by rintro rfl; have := dstG_of (by kernel_rfl) k' 11 ok _ 43 hk rfl hd rfl; subst this; rw [hun] at hl; cases hl)) (by rw [hfl 4 (by decide), hfl 10 (by decide), hfl 12 (by decide), hfl 15 (by decide), getD_set_same (by rw [hsz]; decide)]; exact hR.build hap d10) (.slice (some ⟨w'.heap.size, 0, none⟩) 1 1) (by simp only [valO, Option.bind_some]; simp only [putAll, Act.put, List.setIfInBounds_toArray, List.set_cons_zero, List.set_cons_succ]; rfl)
            clear hS hdep hR hK
            unfold Oper.wp
            simp only [execOp, Act.eval, Array.getD_eq_getD_getElem?]
            simp [go_sem, e42, Oper.upon]
            exact hK'
          | 12, ho, hun, hdep, hK, hfl, _ =>
            obtain rfl := Option.some.inj ho
            have d4 : lp.getD 4 false = true := hdep { on := 4, ground := .data } (by simp) rfl
            have e36 : a'.tmps[36]? = some (.slice (some ⟨gv, 0, none⟩) kk cv) := (hS.don 4 _ 36 rfl d4 rfl).trans (by simp only [putAll, Act.put, List.setIfInBounds_toArray, List.set_cons_zero, List.set_cons_succ]; rfl)
            have d11 : lp.getD 11 false = true := hdep { on := 11, ground := .data } (by simp) rfl
            have e43 : a'.tmps[43]? = some (.slice (some ⟨g.1, 0, none⟩) 1 1) := (hS.don 11 _ 43 rfl d11 rfl).trans (by simp only [putAll, Act.put, List.setIfInBounds_toArray, List.set_cons_zero, List.set_cons_succ]; rfl)
            obtain ⟨r1, r2⟩ := hR.a hun
            have hN := hR.d d11 hun
            refine wp_append_lies w' (.tmp 36) (.tmp 43) 64 rfl (SB + 1) 50 j0 (.int .u32 0) 1 4 Tryd.underlying64 ji jz0 jz1 jz2 rfl (by decide) (.slice (some ⟨gv, 0, none⟩) kk cv) (kk) ((List.range (kk)).map (mkS b)) (by simp [Act.eval, e36]) r1.o ⟨g.1, 0, none⟩ 1 1 [mkS b (kk)] (by simp [Act.eval, e43]) rfl (news13 hN) (by intro u hu; simp at hu; subst hu; rfl) (by decide) (by unfold maxLen; have := HKb.out; omega) (by have := HKb.out; omega) (by have := cell_in r1.m; omega) _ rfl ?_
            intro gg cap W5 ho hg hat _
            have ho' : W5.ownsRow (SB + 1) 50 1 (.slice (some ⟨gg, 0, none⟩) ((kk) + 1) cap) ((kk) + 1) ((List.range ((kk) + 1)).map (mkS b)) := by rw [List.range_succ, List.map_append]; exact ho
            exact hK (g.1, (gg, cap)) W5 (fun k' ok s hk hl hd => gh_same14 (d := 44) (s := s) (by simp only [putAll, Act.put, List.setIfInBounds_toArray, List.set_cons_zero, List.set_cons_succ]; rfl) (by rintro rfl; have := dstG_of (by kernel_rfl) k' 12 ok _ 44 hk rfl hd rfl; subst this; rw [hun] at hl; cases hl)) (by rw [hfl 4 (by decide), hfl 10 (by decide), hfl 11 (by decide), hfl 15 (by decide), getD_set_same (by rw [hsz]; decide)]; exact hR.app hun d4 d11 ho' hg hat) _ (by simp only [valO, Option.bind_some]; simp only [putAll, Act.put, List.setIfInBounds_toArray, List.set_cons_zero, List.set_cons_succ]; rfl)
          | 13, ho, hun, hdep, hK, hfl, _ =>
            obtain rfl := Option.some.inj ho
            have d0 : lp.getD 0 false = true := hdep { on := 0, ground := .data } (by simp) rfl
            have e32 : a'.tmps[32]? = some (.pointer (some ⟨SB, 0, none⟩)) := (hS.don 0 _ 32 rfl d0 rfl).trans (by simp only [putAll, Act.put, List.setIfInBounds_toArray, List.set_cons_zero, List.set_cons_succ]; rfl)
            have hK' := hK g w' (fun _ _ _ _ _ _ => rfl) (by rw [hfl 4 (by decide), hfl 10 (by decide), hfl 11 (by decide), hfl 12 (by decide), hfl 15 (by decide)]; exact hR) (.pointer (some ⟨SB, 0, none⟩)) (by simp only [valO, Option.bind_some]; (try simp only [putAll, Act.put, List.setIfInBounds_toArray, List.set_cons_zero, List.set_cons_succ]); (try rfl))
            clear hS hdep hR
            refine gh_quiet14 (v := .pointer (some ⟨SB, 0, none⟩)) ?_ ?_
            · (simp only [execOp, Act.eval, e32]; go_simp; first | done | (simp; done) | (simp [*]; done) | omega | (rw [IntKind.wrap_i64]; omega))
            · exact hK'
          | 14, ho, hun, hdep, hK, hfl, _ =>
            obtain rfl := Option.some.inj ho
            have d13 : lp.getD 13 false = true := hdep { on := 13, ground := .data } (by simp) rfl
            have e45 : a'.tmps[45]? = some (.pointer (some ⟨SB, 0, none⟩)) := (hS.don 13 _ 45 rfl d13 rfl).trans (by simp only [putAll, Act.put, List.setIfInBounds_toArray, List.set_cons_zero, List.set_cons_succ]; rfl)
            have hK' := hK g w' (fun _ _ _ _ _ _ => rfl) (by rw [hfl 4 (by decide), hfl 10 (by decide), hfl 11 (by decide), hfl 12 (by decide), hfl 15 (by decide)]; exact hR) (.pointer (some ⟨SB, 1, none⟩)) (by simp only [valO, Option.bind_some]; (try simp only [putAll, Act.put, List.setIfInBounds_toArray, List.set_cons_zero, List.set_cons_succ]); (try rfl))
            clear hS hdep hR
            refine gh_quiet14 (v := .pointer (some ⟨SB, 1, none⟩)) ?_ ?_
            · (simp only [execOp, Act.eval, e45]; go_simp; first | done | (simp; done) | (simp [*]; done) | omega | (rw [IntKind.wrap_i64]; omega))
            · exact hK'
          | 15, ho, hun, hdep, hK, hfl, _ =>
            obtain rfl := Option.some.inj ho
            have d14 : lp.getD 14 false = true := hdep { on := 14, ground := .data } (by simp) rfl
            have e46 : a'.tmps[46]? = some (.pointer (some ⟨SB, 1, none⟩)) := (hS.don 14 _ 46 rfl d14 rfl).trans (by simp only [putAll, Act.put, List.setIfInBounds_toArray, List.set_cons_zero, List.set_cons_succ]; rfl)
            have d12 : lp.getD 12 false = true := hdep { on := 12, ground := .data } (by simp) rfl
            have e44 : a'.tmps[44]? = some (.slice (some ⟨g.2.1, 0, none⟩) (kk + 1) g.2.2) := (hS.don 12 _ 44 rfl d12 rfl).trans (by simp only [putAll, Act.put, List.setIfInBounds_toArray, List.set_cons_zero, List.set_cons_succ]; rfl)
            have hc := hR.c d12 hun
            have k1 := hc.2.2.2.1
            have kf := hc.2.2.2.2.1
            have hK' := hK g (w'.setCell ⟨SB, 1, none⟩ (.slice (some ⟨g.2.1, 0, none⟩) (kk + 1) g.2.2)) (fun _ _ _ _ _ _ => rfl) (by rw [hfl 4 (by decide), hfl 10 (by decide), hfl 11 (by decide), hfl 12 (by decide), getD_set_same (by rw [hsz]; decide)]; exact hR.sto d12 hun) undef rfl
            clear hS hdep hR hK hc
            unfold Oper.wp
            simp only [execOp, Act.eval, Array.getD_eq_getD_getElem?]
            simp [go_sem, e46, e44, k1, kf, Oper.upon]
            exact hK'
          | n + 16, ho, hun, hdep, hK, hfl, hq => exact absurd hq (by omega)
        case fin5 =>
          intro g V8 hR
          obtain ⟨hs8, hf8⟩ := hR.e (by simp)
          have HS8 := hid13 hs8
          have HF8 := hid13 (HFr.out.trans hf8)
          simp only [putAll, Act.put, List.setIfInBounds_toArray, List.set_cons_zero, List.set_cons_succ]
          clear hR hs8 hf8
          go_wp2
          go_roundg (n + 1 - (kk + 1))
          case measure => have := HMs.out; omega
          case rel => exact ⟨kk + 1, _, by omega, by first | rfl | (congr 1; omega) | (rw [wl]; congr 1; omega), rfl, HS8, HF8, hid13 (by have := HMs.out; omega)⟩
      · have hlt' : ¬ ((kk : Int) - 1) < (n : Int) := by omega
        have HE : Hid (n < kk ∧ kk ≤ b.length + 1) := ⟨by omega, HKk.out⟩
        clear hkk hlt
        go_wp2
        exact bodyPost_end (v := .tuple #[]) (by simp [results, Tryd.results48, go_sem]) rfl (by first | exact ⟨rfl, kk, vv, HE.out.1, HE.out.2, HSk.out, HFr.out⟩ | exact ⟨rfl, kk, HE.out.1, HE.out.2, vv, HSk.out, HFr.out⟩)
end Go.Proofs.YtgbhbooogofmbaaDoor
