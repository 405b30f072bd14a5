/-
  Part 9 of the proof: 3 texts, one behind the other.
-/
import Derived.Test.YtjgpbahglkaijaaPart8
import Derived.Test.YtjgpbahglkaijaaPart6
namespace Go.Proofs.Ytjgpbahglkaijaa
open Go.RowKit
set_option linter.unusedSimpArgs false
set_option linter.unusedVariables false
attribute [local go_sem] Oper.semAt_some

structure PgV (w W : World) (base Q : Nat) (vb : Value) (dp an : Int) (L : List Bv) (P : List PB) : Prop where
  g : W.heap[Q]? = some (.cells #[vb, .int .i64 dp, .int .i64 an] 86)
  b : BsV W base vb L P
  bQ : base ≤ Q
  lo : Below base w W
section
variable {w W W' : World} {base Q : Nat} {vb : Value} {dp an : Int} {L : List Bv} {P : List PB}
theorem PgV.sz (h : PgV w W base Q vb dp an L P) : base ≤ W.heap.size := Nat.le_of_lt (Nat.lt_of_le_of_lt h.bQ (lt_16 h.g))
theorem PgV.below (h : PgV w W base Q vb dp an L P) (hb : Below W.heap.size W W') : PgV w W' base Q vb dp an L P := ⟨(hb.block _ (lt_16 h.g)).trans h.g, h.b.below hb, h.bQ, h.lo.trans (hb.mono h.sz)⟩
theorem PgV.c0 (h : PgV w W base Q vb dp an L P) : W.cell? ⟨Q, 0, none⟩ = some vb := at_16 h.g 0 _ rfl
theorem PgV.blk {g n c k : Nat} {p : PB} (h : PgV w W base Q (.slice (some ⟨g, 0, none⟩) n c) dp an L P) (hp : P[k]? = some p) : ∃ x, L[k]? = some x ∧ x.a = p.a ∧ x.t = p.t ∧ BkO W base x p ∧ W.cell? ⟨g, k * 4, none⟩ = some (.int .i64 p.a) ∧ W.cell? ⟨g, k * 4 + 1, none⟩ = some (.int .i64 p.t) ∧ W.cell? ⟨g, k * 4 + 2, none⟩ = some x.vs ∧ W.cell? ⟨g, k * 4 + 3, none⟩ = some x.ve := by
  obtain ⟨x, hx, ho⟩ := h.b.get hp
  obtain ⟨a1, a2, a3, a4⟩ := rowB8_get L k x hx
  have o1 := h.b.o
  have hn : n = L.length := by obtain ⟨ao, c', e⟩ := own_form h.b.o; injection e
  subst hn
  refine ⟨x, hx, ho.1, ho.2.1, ho, ?_, ?_, (own_at18 o1 a3).1, (own_at18 o1 a4).1⟩
  · rw [(own_at18 o1 a1).1, ho.1]
  · rw [(own_at18 o1 a2).1, ho.2.1]
theorem PgV.lnk {g cap k i : Nat} {x : Bv} {p : PB} {e : Bool × Int} (h : PgV w W base Q vb dp an L P) (hx : L[k]? = some x) (hp : P[k]? = some p) (hv : x.ve = .slice (some ⟨g, 0, none⟩) p.es.length cap) (he : p.es[i]? = some e) (n : Int) :
    PgV w (W.setCell ⟨g, i * 2 + 1, none⟩ (.int .i64 n)) base Q vb dp an L (P.set k { p with es := p.es.set i (e.1, n) }) := by
  have ho := (h.b.m k x p hx hp).2.2.2
  obtain ⟨cs, hc⟩ := own_typed18 ho g (by rw [hv]; rfl)
  refine ⟨(far_16 (fun q => ?_)).trans h.g, h.b.link hx hp hv he n, h.bQ, h.lo.setCell (p := ⟨g, i * 2 + 1, none⟩) (ho.lt g (by rw [hv]; rfl)).1 _⟩
  have := h.g
  rw [q, hc] at this
  injection this with this
  injection this with _ h3 _
  exact absurd h3 (by decide)
end
theorem placeOf18 (a t : Int) (so eo : Option Addr) (sn sc en ec : Nat) (k : Int) (w : World) (h : 0 ≤ a ∧ a ≤ 1000000000 ∧ sn ≤ 1000000000 ∧ 0 ≤ k ∧ k ≤ 1000000000) :
    Calls Try.prog 100 #[.agg #[.int .i64 a, .int .i64 t, .slice so sn sc, .slice eo en ec], .int .i64 k] w fun e w' => e = .returned (.int .i64 (a + 2 + (sn : Int) + k)) ∧ Below w.heap.size w w' := by
  have m1 : IntKind.i64.wrap (a + 2) = a + 2 := by rw [IntKind.wrap_i64]; omega
  have m2 : IntKind.i64.wrap (a + 2 + (sn : Int)) = a + 2 + (sn : Int) := by rw [IntKind.wrap_i64]; omega
  have m3 : IntKind.i64.wrap (a + 2 + (sn : Int) + k) = a + 2 + (sn : Int) + k := by rw [IntKind.wrap_i64]; omega
  clear h
  go_enter Try.func100, Try.ntmps100
  go_wp2
  go_ret
  exact ⟨rfl, bl1 _ _⟩
def LkQ (w : World) (base Q : Nat) (vb : Value) (L : List Bv) (qs : List Int) (P : List PB) (e : Ending) (W' : World) : Prop :=
  e = .returned (.tuple #[.int .i64 (lkR qs P).1, .int .i64 (lkR qs P).2]) ∧ ((lkR qs P).2 = 0 → PgV w W' base Q vb 0 0 L (P.map (lkB qs))) ∧ Below base w W'
theorem LkQ.no {w W' : World} {base Q : Nat} {vb : Value} {L : List Bv} {qs : List Int} {P : List PB} {p : Int} (h : lkA qs P = some p) (hb : Below base w W') : LkQ w base Q vb L qs P (.returned (.tuple #[.int .i64 p, .int .i64 26])) W' := by
  have e : lkR qs P = (p, 26) := by unfold lkR; rw [h]
  refine ⟨by rw [e], fun q => ?_, hb⟩
  rw [e] at q; cases q
theorem LkQ.ok {w W' : World} {base Q : Nat} {vb : Value} {L : List Bv} {qs : List Int} {P : List PB} (h : lkA qs P = none) (hb : PgV w W' base Q vb 0 0 L (P.map (lkB qs))) : LkQ w base Q vb L qs P (.returned (.tuple #[.int .i64 0, .int .i64 0])) W' := by
  have e : lkR qs P = (0, 0) := by unfold lkR; rw [h]
  exact ⟨by rw [e], fun _ => hb, hb.lo⟩
structure LkI (w : World) (base Q : Nat) (vb : Value) (L : List Bv) (A B : List PB) (b : PB) (X Y : List (Bool × Int)) (Cb : Nat) (x : Bv) (W : World) : Prop where
  p : PgV w W base Q vb 0 0 L (A ++ { b with es := X ++ Y } :: B)
  c : W.heap[Cb]? = some (.cells #[.int .i64 b.a, .int .i64 b.t, x.vs, x.ve] 121)
set_option maxRecDepth 20000 in
set_option maxHeartbeats 16000000 in
theorem link18 (w : World) (base Q : Nat) (vb : Value) (L : List Bv) (P : List PB) (h : PgV w w base Q vb 0 0 L P) (qs : List Int) (hqs : qs = P.map PB.a) (hs : qs.Pairwise (· < ·)) (h0 : 0 < P.length) (hl : P.length ≤ 100000000) (hb : ∀ b ∈ P, 0 ≤ b.a ∧ b.a ≤ 100000000 ∧ b.m.length ≤ 100000000 ∧ b.es.length ≤ 100000000) :
    Calls Try.prog 76 #[.pointer (some ⟨Q, 0, none⟩)] w (LkQ w base Q vb L qs P) := by
  obtain ⟨g, c, hvb, -⟩ := own_some18 h.b.o (by rw [h.b.l]; exact h0)
  subst hvb
  have hLl := h.b.l
  have c0 := h.c0
  have HQ : Hid (qs = P.map PB.a ∧ qs.Pairwise (· < ·) ∧ L.length = P.length ∧ P.length ≤ 100000000) := ⟨hqs, hs, hLl, hl⟩
  have HB := hid13 hb
  have HP0 := hid13 h
  obtain ⟨n, hn⟩ : ∃ n, n = L.length := ⟨_, rfl⟩
  rw [← hn] at c0
  have HN := hid13 hn
  clear h hqs hs h0 hl hb hLl hn
  go_enter Try.func76, Try.ntmps76
  go_wp2_with fail
  go_loopg [15] n (fun gk jv wr => ∃ (j : Nat) (A0 B : List PB), j + gk = n ∧ jv = .int .i64 (j : Int) ∧ Hid (P = A0 ++ B ∧ A0.length = j ∧ lkA qs B = lkA qs P ∧ PgV w wr base Q (.slice (some ⟨g, 0, none⟩) L.length c) 0 0 L (A0.map (lkB qs) ++ B)))
  case atStart => exact ⟨0, [], P, by omega, rfl, hid13 ⟨rfl, rfl, rfl, HP0.out⟩⟩
  case round =>
    clear HP0 c0
    obtain ⟨j, A0, B, hk, rfl, HI⟩ := hrel
    by_cases hlt : (j : Int) < (n : Int)
    · obtain ⟨b, B', hB⟩ : ∃ b B', B = b :: B' := by
        cases hB : B with
        | nil =>
          have e1 := HI.out.1
          have e2 := HI.out.2.1
          rw [hB, List.append_nil] at e1
          have := HQ.out.2.2.1
          have := HN.out
          rw [e1] at *
          omega
        | cons b B' => exact ⟨b, B', rfl⟩
      subst hB
      obtain ⟨hPA, hjA, hlk, hpg⟩ := HI.out
      have hmem : b ∈ P := by rw [hPA]; simp
      have hbb := HB.out b hmem
      have hge : (A0.map (lkB qs) ++ b :: B')[j]? = some b := by rw [← hjA]; simp
      obtain ⟨x, hx, hxa, hxt, hxo, d0, d1, d2, d3⟩ := hpg.blk hge
      obtain ⟨so, sc, hso⟩ := own_form hxo.2.2.1
      obtain ⟨eo, ec, heo⟩ := own_form hxo.2.2.2
      rw [hso] at d2
      rw [heo] at d3
      have q1 := bl1 wr (.cells #[.int .i64 b.a, .int .i64 b.t, .slice so b.m.length sc, .slice eo b.es.length ec] 121)
      have HIn0 : Hid (LkI w base Q (.slice (some ⟨g, 0, none⟩) L.length c) L (A0.map (lkB qs)) B' b [] b.es wr.heap.size x (wr.alloc (.cells #[.int .i64 b.a, .int .i64 b.t, .slice so b.m.length sc, .slice eo b.es.length ec] 121))) := ⟨hpg.below q1, by rw [hso, heo]; exact new_16 _ _⟩
      obtain ⟨GK, hGK⟩ : ∃ GK, GK = gk := ⟨_, rfl⟩
      have HJ : Hid (j + GK = n ∧ GK = gk ∧ j < n) := ⟨by omega, hGK, by omega⟩
      have HX : Hid (L[j]? = some x ∧ x.vs = .slice so b.m.length sc ∧ x.ve = .slice eo b.es.length ec ∧ (A0.map (lkB qs)).length = j) := ⟨hx, hso, heo, by rw [List.length_map]; exact hjA⟩
      have HPA : Hid (P = A0 ++ b :: B' ∧ A0.length = j ∧ lkA qs (b :: B') = lkA qs P) := ⟨hPA, hjA, hlk⟩
      have HBb := hid13 hbb
      have mj : IntKind.i64.wrap ((j : Int) + 1) = ((j + 1 : Nat) : Int) := by rw [IntKind.wrap_i64]; have := HQ.out; have := HN.out; push_cast; omega
      obtain ⟨Cb, hCb⟩ : ∃ Cb, Cb = wr.heap.size := ⟨_, rfl⟩
      obtain ⟨ba, hba⟩ : ∃ y, y = b.a := ⟨_, rfl⟩
      obtain ⟨bt, hbt⟩ : ∃ y, y = b.t := ⟨_, rfl⟩
      obtain ⟨bm, hbm⟩ : ∃ y, y = b.m.length := ⟨_, rfl⟩
      obtain ⟨bn, hbn⟩ : ∃ y, y = b.es.length := ⟨_, rfl⟩
      rw [← hba, ← hbt, ← hbm, ← hbn] at HIn0
      rw [← hba] at d0
      rw [← hbt] at d1
      rw [← hbm] at d2 HX
      rw [← hbn] at d3 HX
      rw [← hba, ← hbm, ← hbn] at HBb
      have HBs : Hid (ba = b.a ∧ bt = b.t ∧ bm = b.m.length ∧ bn = b.es.length) := ⟨hba, hbt, hbm, hbn⟩
      clear hPA hjA hlk hpg hmem hbb hge hx hxa hxt hxo hso heo q1 hGK hk HI hba hbt hbm hbn
      go_wp2_with fail
      rw [← hCb] at HIn0 ⊢
      revert HIn0
      generalize wr.alloc (.cells #[.int .i64 ba, .int .i64 bt, .slice so bm sc, .slice eo bn ec] 121) = W0
      intro HIn0
      clear d0 d1 d2 d3 hCb
      go_loopg [22] bn (fun gk iv wr2 => ∃ (i : Nat) (X0 Y : List (Bool × Int)), i + gk = bn ∧ iv = .int .i64 (i : Int) ∧ Hid (b.es = X0 ++ Y ∧ X0.length = i ∧ (match lkI qs (b.a + 2 + (b.m.length : Int) + (i : Int)) Y with | some p => some p | none => lkA qs B') = lkA qs P ∧ LkI w base Q (.slice (some ⟨g, 0, none⟩) L.length c) L (A0.map (lkB qs)) B' b (X0.map (lkX qs)) Y Cb x wr2))
      case atStart => exact ⟨0, [], b.es, by omega, rfl, hid13 ⟨rfl, rfl, by rw [← HPA.out.2.2, Int.natCast_zero, Int.add_zero]; rfl, HIn0.out⟩⟩
      case round =>
        clear HIn0
        obtain ⟨i, X0, Y, hk2, rfl, HI2⟩ := hrel
        have hXl : (X0.map (lkX qs)).length = i := by rw [List.length_map]; exact HI2.out.2.1
        have hEl : (X0.map (lkX qs) ++ Y).length = bn := by
          rw [List.length_append, List.length_map, HBs.out.2.2.2, HI2.out.1, List.length_append]
        have hge : (A0.map (lkB qs) ++ { b with es := X0.map (lkX qs) ++ Y } :: B')[j]? = some { b with es := X0.map (lkX qs) ++ Y } := by rw [← HX.out.2.2.2]; simp
        by_cases hlt2 : (i : Int) < (bn : Int)
        · obtain ⟨e, Y', hY⟩ : ∃ e Y', Y = e :: Y' := by
            cases hY : Y with
            | nil =>
              rw [hY, List.append_nil] at hEl
              omega
            | cons e Y' => exact ⟨e, Y', rfl⟩
          subst hY
          obtain ⟨eb, en⟩ := e
          obtain ⟨hes, hXi, hres, hLI⟩ := HI2.out
          have hbo := (hLI.p.b.m j x _ HX.out.1 hge).2.2.2
          dsimp only at hbo
          rw [hEl, HX.out.2.2.1] at hbo
          obtain ⟨eg, ec', hee, -⟩ := own_some18 hbo (by omega)
          injection hee with he1 he2 he3
          subst he1 he3
          have hei : (X0.map (lkX qs) ++ (eb, en) :: Y')[i]? = some (eb, en) := by rw [← hXl]; simp
          obtain ⟨r1, r2⟩ := rowE8_get _ _ _ hei
          have k1 := (own_at18 hbo r1).1
          have k2 := (own_at18 hbo r2).1
          dsimp only at k1 k2
          have hcb := hLI.c
          rw [HX.out.2.1, HX.out.2.2.1, ← HBs.out.1, ← HBs.out.2.1] at hcb
          have q1 := bl1 wr (.cells #[.bool eb, .int .i64 en] 151)
          have HLI1 : Hid (LkI w base Q (.slice (some ⟨g, 0, none⟩) L.length c) L (A0.map (lkB qs)) B' b (X0.map (lkX qs)) ((eb, en) :: Y') Cb x (wr.alloc (.cells #[.bool eb, .int .i64 en] 151))) := ⟨hLI.p.below q1, (q1.block _ (lt_16 hLI.c)).trans hLI.c⟩
          have mi : IntKind.i64.wrap ((i : Int) + 1) = ((i + 1 : Nat) : Int) := by rw [IntKind.wrap_i64]; have := HBb.out; push_cast; omega
          have HK2 : Hid (i + gk = bn ∧ i < bn) := ⟨hk2, by omega⟩
          have HRs := hid13 hres
          have HEs : Hid (b.es = (X0 ++ [(eb, en)]) ++ Y' ∧ (X0 ++ [(eb, en)]).length = i + 1) := ⟨by rw [hes]; simp, by rw [List.length_append, hXi]; rfl⟩
          have HEi : Hid ((X0.map (lkX qs) ++ (eb, en) :: Y')[i]? = some (eb, en) ∧ (X0.map (lkX qs)).length = i ∧ (X0.map (lkX qs) ++ (eb, en) :: Y').length = bn) := ⟨hei, hXl, hEl⟩
          clear hes hXi hres hLI hbo he2 hei r1 r2 hcb q1 hk2 HI2 hge hXl hEl
          cases eb with
          | false =>
            have HRs2 : Hid ((match lkI qs (b.a + 2 + (b.m.length : Int) + ((i + 1 : Nat) : Int)) Y' with | some p => some p | none => lkA qs B') = lkA qs P) := hid13 (by
              have := HRs.out
              unfold lkI at this
              rw [if_neg (by simp)] at this
              rw [← this, show b.a + 2 + (b.m.length : Int) + ((i + 1 : Nat) : Int) = b.a + 2 + (b.m.length : Int) + (i : Int) + 1 by omega])
            have HL2 : Hid (LkI w base Q (.slice (some ⟨g, 0, none⟩) L.length c) L (A0.map (lkB qs)) B' b ((X0 ++ [(false, en)]).map (lkX qs)) Y' Cb x (wr.alloc (.cells #[.bool false, .int .i64 en] 151))) := hid13 (by
              have := HLI1.out
              rw [List.map_append]
              refine ⟨?_, this.c⟩
              have h9 := this.p
              rw [List.append_assoc]
              exact h9)
            clear HRs HLI1
            go_wp2
            go_roundg (gk - 1)
            case measure => have := HK2.out; omega
            case rel => exact ⟨i + 1, _, _, by have := HK2.out; omega, rfl, hid13 ⟨HEs.out.1, HEs.out.2, HRs2.out, HL2.out⟩⟩
          | true =>
            have hpc0 := HLI1.out.p.c0
            have hnn : L.length = n := HN.out.symm
            have hsr := HLI1.out.p.b.sr
            have hmp : (A0.map (lkB qs) ++ { b with es := X0.map (lkX qs) ++ (true, en) :: Y' } :: B').map PB.a = qs := by
              rw [HQ.out.1, HPA.out.1]
              simp [lkB, Function.comp_def]
            rw [hmp] at hsr
            have hql : qs.length = n := by rw [HQ.out.1, List.length_map, HN.out, HQ.out.2.2.1]
            have KB := blockAt18 Q g c qs en _ (by rw [hql, ← hnn]; exact hpc0) hsr HQ.out.2.1 (by have := HQ.out.2.2.2; have := HQ.out.2.2.1; omega)
            clear hpc0 hsr hmp hnn
            go_wp2_with fail
            refine KB.mono ?_
            rintro e9 W3 ⟨⟨i3, bf, rfl, hf1, hf2⟩, hb3⟩
            have HL3 : Hid (LkI w base Q (.slice (some ⟨g, 0, none⟩) L.length c) L (A0.map (lkB qs)) B' b (X0.map (lkX qs)) ((true, en) :: Y') Cb x W3) := ⟨HLI1.out.p.below hb3, (hb3.block _ (lt_16 HLI1.out.c)).trans HLI1.out.c⟩
            clear KB HLI1 hb3 hql
            have hcb := HL3.out.c
            rw [HX.out.2.1, HX.out.2.2.1, ← HBs.out.1, ← HBs.out.2.1] at hcb
            have z0 := at_16 hcb 0 _ rfl
            have z1 := at_16 hcb 1 _ rfl
            have z2 := at_16 hcb 2 _ rfl
            have z3 := at_16 hcb 3 _ rfl
            clear k1 k2
            cases bf with
            | false =>
              have hfn := hf2 rfl
              have HRes : Hid (lkA qs P = some (ba + 2 + (bm : Int) + (i : Int))) := hid13 (by
                have := HRs.out
                unfold lkI at this
                rw [if_pos ⟨rfl, hfn⟩] at this
                rw [← this, HBs.out.1, HBs.out.2.2.1])
              have KP := placeOf18 ba bt so (some ⟨eg, 0, none⟩) bm sc bn ec (i : Int) W3 (by have := HBb.out; have := HK2.out; omega)
              have HLo := hid13 HL3.out.p
              clear hf1 hf2 hfn HRs HL3 hcb
              go_wp2_with fail
              refine KP.mono ?_
              rintro e8 W4 ⟨rfl, hb4⟩
              have HF := hid13 (HLo.out.lo.trans (hb4.mono HLo.out.sz))
              clear KP HLo hb4
              go_wp2
              exact bodyPost_ret (v := .tuple #[.int .i64 (ba + 2 + (bm : Int) + (i : Int)), .int .i64 26]) (by simp [results, Try.results76, go_sem]) rfl (LkQ.no HRes.out HF.out)
            | true =>
              obtain ⟨hfn, hil⟩ := hf1 rfl
              have HRs2 : Hid ((match lkI qs (b.a + 2 + (b.m.length : Int) + ((i + 1 : Nat) : Int)) Y' with | some p => some p | none => lkA qs B') = lkA qs P) := hid13 (by
                have := HRs.out
                unfold lkI at this
                rw [if_neg (fun q => by rw [hfn] at q; have := q.2; omega)] at this
                rw [← this, show b.a + 2 + (b.m.length : Int) + ((i + 1 : Nat) : Int) = b.a + 2 + (b.m.length : Int) + (i : Int) + 1 by omega])
              have hge : (A0.map (lkB qs) ++ { b with es := X0.map (lkX qs) ++ (true, en) :: Y' } :: B')[j]? = some { b with es := X0.map (lkX qs) ++ (true, en) :: Y' } := by rw [← HX.out.2.2.2]; simp
              have hln := HL3.out.p.lnk HX.out.1 hge (by rw [HX.out.2.2.1]; dsimp only; rw [HEi.out.2.2]) HEi.out.1 (i3 : Int)
              obtain ⟨csE, hcsE⟩ := own_typed18 (HL3.out.p.b.m j x _ HX.out.1 hge).2.2.2 eg (by rw [HX.out.2.2.1]; rfl)
              have hoo := (HL3.out.p.b.m j x _ HX.out.1 hge).2.2.2
              dsimp only at hoo
              rw [HEi.out.2.2, HX.out.2.2.1] at hoo
              have hre := (rowE8_get _ _ _ HEi.out.1).2
              obtain ⟨y1, y2⟩ := own_at18 hoo hre
              dsimp only at y1 y2
              have HL4 : Hid (LkI w base Q (.slice (some ⟨g, 0, none⟩) L.length c) L (A0.map (lkB qs)) B' b ((X0 ++ [(true, en)]).map (lkX qs)) Y' Cb x (W3.setCell ⟨eg, i * 2 + 1, none⟩ (.int .i64 (i3 : Int)))) := hid13 (by
                refine ⟨?_, (far_16 (fun q => ?_)).trans HL3.out.c⟩
                · have e1 : (A0.map (lkB qs) ++ { b with es := X0.map (lkX qs) ++ (true, en) :: Y' } :: B').set j { b with es := (X0.map (lkX qs) ++ (true, en) :: Y').set i (true, (i3 : Int)) } = A0.map (lkB qs) ++ { b with es := (X0 ++ [(true, en)]).map (lkX qs) ++ Y' } :: B' := by
                    have e2 : (X0.map (lkX qs) ++ (true, en) :: Y').set i (true, (i3 : Int)) = (X0 ++ [(true, en)]).map (lkX qs) ++ Y' := by
                      rw [← HEi.out.2.1]
                      simp [lkX, hfn]
                    rw [e2, ← HX.out.2.2.2]
                    simp
                  rw [← e1]
                  exact hln
                · have := HL3.out.c
                  rw [q, hcsE] at this
                  injection this with this
                  injection this with _ h3 _
                  exact absurd h3 (by decide))
              clear hf1 hf2 hfn HRs HL3 hcb hln hcsE hoo hre hge
              have hii : (i : Int) < (bn : Int) := by have := HK2.out; omega
              go_wp2
              go_roundg (gk - 1)
              case measure => have := HK2.out; omega
              case rel => exact ⟨i + 1, _, _, by have := HK2.out; omega, rfl, hid13 ⟨HEs.out.1, HEs.out.2, HRs2.out, HL4.out⟩⟩
        · have HFin : Hid (P = (A0 ++ [b]) ++ B' ∧ (A0 ++ [b]).length = j + 1 ∧ lkA qs B' = lkA qs P ∧ PgV w wr base Q (.slice (some ⟨g, 0, none⟩) L.length c) 0 0 L ((A0 ++ [b]).map (lkB qs) ++ B')) := hid13 (by
            have hYn : Y = [] := by
              have e1 := HI2.out.2.1
              rw [List.length_append, List.length_map, e1] at hEl
              exact List.eq_nil_of_length_eq_zero (by omega)
            obtain ⟨hes, hXi, hres, hLI⟩ := HI2.out
            rw [hYn] at hes hres hLI
            rw [List.append_nil] at hes
            refine ⟨by rw [HPA.out.1]; simp, by rw [List.length_append, HPA.out.2.1]; rfl, hres, ?_⟩
            have h9 := hLI.p
            rw [List.append_nil, ← hes] at h9
            rw [List.map_append]
            simp only [List.map_cons, List.map_nil, List.append_assoc, List.singleton_append]
            exact h9)
          clear HI2 hge hXl hEl hk2
          go_wp2
          go_roundg (GK - 1)
          case measure => have := HJ.out; omega
          case rel => exact ⟨j + 1, _, _, by have := HJ.out; omega, rfl, HFin⟩
    · have HFin : Hid (lkA qs P = none ∧ PgV w wr base Q (.slice (some ⟨g, 0, none⟩) L.length c) 0 0 L (P.map (lkB qs))) := hid13 (by
        obtain ⟨hPA, hjA, hlk, hpg⟩ := HI.out
        have hBn : B = [] := by
          have e2 : P.length = A0.length + B.length := by rw [hPA, List.length_append]
          have := HQ.out.2.2.1
          have := HN.out
          exact List.eq_nil_of_length_eq_zero (by omega)
        rw [hBn] at hPA hlk hpg
        rw [List.append_nil] at hPA hpg
        exact ⟨hlk.symm, by rw [hPA]; exact hpg⟩)
      clear HI hk
      go_wp2
      exact bodyPost_ret (v := .tuple #[.int .i64 0, .int .i64 0]) (by simp [results, Try.results76, go_sem]) rfl (LkQ.ok HFin.out.1 HFin.out.2)
end Go.Proofs.Ytjgpbahglkaijaa
namespace Go.Proofs.Ytjgpbahglkaijaa
open Go.RowKit Go.Shelf
set_option linter.unusedSimpArgs false
set_option linter.unusedVariables false
attribute [local go_sem] Oper.semAt_some

def cBo18 (b : Bool) : Value := .bool b
theorem ix_at {s : List Bool} {k : Nat} (h : s[k]? = some false) (hb : ∀ j : Nat, j < k → s[j]? ≠ some false) : ixB s = (k : Int) := by
  unfold ixB
  have hf : s.findIdx? (· == false) = some k := by
    rw [List.findIdx?_eq_some_iff_getElem]
    obtain ⟨h1, h2⟩ := List.getElem?_eq_some_iff.mp h
    refine ⟨h1, by simp [h2], fun j hj => ?_⟩
    have := hb j hj
    rw [List.getElem?_eq_getElem (by omega)] at this
    simpa using this
  rw [hf]
theorem ix_no {s : List Bool} (hb : ∀ j : Nat, s[j]? ≠ some false) : ixB s = -1 := by
  unfold ixB
  have hf : s.findIdx? (· == false) = none := by
    rw [List.findIdx?_eq_none_iff]
    intro y hy
    obtain ⟨i, hi⟩ := List.getElem?_of_mem hy
    have := hb i
    rw [hi] at this
    simpa using this
  rw [hf]
set_option maxRecDepth 20000 in
set_option maxHeartbeats 4000000 in
theorem indexB18 (z n : Nat) (s : List Bool) (w : World) (hz : w.heap[z]? = some (.cells (s.map cBo18).toArray 4)) (hn : s.length = n) (hl : n ≤ 1000000000) :
    Calls Try.prog 101 #[.slice (some ⟨z, 0, none⟩) n n, .bool false] w fun e w' => e = .returned (.int .i64 (ixB s)) ∧ w' = w := by
  have HC : Hid (∀ k b, s[k]? = some b → w.cell? ⟨z, k, none⟩ = some (.bool b)) := hid13 (fun k b hk => at_16 hz k _ (by rw [List.getElem?_toArray, List.getElem?_map, hk]; rfl))
  obtain ⟨R, hR⟩ : ∃ R, R = ixB s := ⟨_, rfl⟩
  have HR := hid13 hR
  have HN : Hid (s.length = n ∧ n ≤ 1000000000) := ⟨hn, hl⟩
  rw [← hR]
  clear hz hR hn hl
  go_enter Try.func101, Try.ntmps101
  go_wp2_with fail
  go_loopg [8] n (fun g iv wr => ∃ i : Nat, i + g = n ∧ iv = .int .i64 (i : Int) ∧ wr = w ∧ Hid (∀ j, j < i → s[j]? ≠ some false))
  case atStart => exact ⟨0, by omega, rfl, rfl, hid13 (fun j hj => by omega)⟩
  case round =>
    obtain ⟨i, hk, rfl, hw, HI⟩ := hrel
    replace hw := hw.symm
    subst hw
    by_cases hlt : (i : Int) < (n : Int)
    · obtain ⟨b, hb⟩ : ∃ b, s[i]? = some b := ⟨_, List.getElem?_eq_getElem (by have := HN.out; omega)⟩
      have c0 := HC.out i b hb
      have mi : IntKind.i64.wrap ((i : Int) + 1) = ((i + 1 : Nat) : Int) := by rw [IntKind.wrap_i64]; have := HN.out; push_cast; omega
      cases b with
      | false =>
        have HF : Hid (R = (i : Int)) := hid13 (by rw [HR.out]; exact ix_at hb HI.out)
        clear hb hk
        go_wp2
        exact bodyPost_ret (v := .int .i64 (i : Int)) (by simp [results, Try.results101, go_sem]) rfl ⟨by rw [HF.out], rfl⟩
      | true =>
        have HI2 : Hid (∀ j, j < i + 1 → s[j]? ≠ some false) := hid13 (fun j hj => by
          by_cases e : j = i
          · subst e; rw [hb]; simp
          · exact HI.out j (by omega))
        have HK : Hid (i + gk = n ∧ i < n) := ⟨hk, by omega⟩
        clear hb hk HI
        go_wp2
        go_roundg (gk - 1)
        case measure => have := HK.out; omega
        case rel => exact ⟨i + 1, by have := HK.out; omega, rfl, rfl, HI2⟩
    · have HF : Hid (R = -1) := hid13 (by
        rw [HR.out]
        refine ix_no (fun j => ?_)
        by_cases hj : j < i
        · exact HI.out j hj
        · rw [List.getElem?_eq_none (by have := HN.out; omega)]; simp)
      clear hk HI
      go_wp2
      exact bodyPost_ret (v := .int .i64 (-1)) (by simp [results, Try.results101, go_sem]) rfl ⟨by rw [HF.out], rfl⟩
theorem Try.infoO18 : (Try.prog.info? 4).map (fun i => (i.zero, i.size, i.bytes)) = some (some (.bool false), 1, 1) := by kernel_rfl
theorem map_set18 (l : List Bool) (k : Nat) (b : Bool) : (l.map cBo18).toArray.setIfInBounds k (.bool b) = ((l.set k b).map cBo18).toArray := by
  rw [List.setIfInBounds_toArray, List.map_set]; rfl
structure UsM (w : World) (base Q : Nat) (vb : Value) (L : List Bv) (P : List PB) (Z : Nat) (s : List Bool) (W : World) : Prop where
  p : PgV w W base Q vb 0 0 L P
  z : W.heap[Z]? = some (.cells (s.map cBo18).toArray 4)
  bZ : base ≤ Z
section
variable {w W W' : World} {base Q : Nat} {vb : Value} {L : List Bv} {P : List PB} {Z : Nat} {s : List Bool}
theorem UsM.below (h : UsM w base Q vb L P Z s W) (hb : Below W.heap.size W W') : UsM w base Q vb L P Z s W' := ⟨h.p.below hb, (hb.block _ (lt_16 h.z)).trans h.z, h.bZ⟩
theorem PgV.far {z o : Nat} {cs : Array Value} {T : TypeId} {dp an : Int} (h : PgV w W base Q vb dp an L P) (hz : W.heap[z]? = some (.cells cs T)) (h1 : 121 ≠ T) (h2 : 110 ≠ T) (h3 : 151 ≠ T) (h4 : 86 ≠ T) (hb : base ≤ z) (u : Value) : PgV w (W.setCell ⟨z, o, none⟩ u) base Q vb dp an L P :=
  ⟨(far_16 (fun q => by
    have := h.g
    rw [q, hz] at this
    injection this with this
    injection this with _ h5 _
    exact h4 h5.symm)).trans h.g, h.b.far hz h1 h2 h3 u, h.bQ, h.lo.setCell (p := ⟨z, o, none⟩) hb _⟩
theorem UsM.set (h : UsM w base Q vb L P Z s W) (k : Nat) : UsM w base Q vb L P Z (s.set k true) (W.setCell ⟨Z, k, none⟩ (.bool true)) :=
  ⟨h.p.far h.z (by decide) (by decide) (by decide) (by decide) h.bZ _, by rw [set_16 h.z, map_set18], h.bZ⟩
theorem UsM.cell (h : UsM w base Q vb L P Z s W) {k : Nat} {b : Bool} (hk : s[k]? = some b) : W.cell? ⟨Z, k, none⟩ = some (.bool b) ∧ W.frozen? ⟨Z, k, none⟩ = false :=
  ⟨at_16 h.z k _ (by rw [List.getElem?_toArray, List.getElem?_map, hk]; rfl), fr_16 h.z⟩
end
def UsQ (w : World) (base Q : Nat) (vb : Value) (L : List Bv) (P : List PB) (e : Ending) (W' : World) : Prop := e = .returned (.tuple #[.int .i64 (usR P).1, .int .i64 (usR P).2]) ∧ PgV w W' base Q vb 0 0 L P
set_option maxRecDepth 20000 in
set_option maxHeartbeats 16000000 in
theorem used18 (w0 w : World) (base Q : Nat) (vb : Value) (L : List Bv) (P : List PB) (h : PgV w0 w base Q vb 0 0 L P) (h0 : 0 < P.length) (hl : P.length ≤ 100000000) (hb : ∀ b ∈ P, b.es.length ≤ 100000000 ∧ ∀ e ∈ b.es, e.1 = true → 0 ≤ e.2 ∧ e.2 < P.length) :
    Calls Try.prog 77 #[.pointer (some ⟨Q, 0, none⟩)] w (UsQ w0 base Q vb L P) := by
  obtain ⟨i0, hi, hz0, hz1, hz2⟩ := info13 Try.infoO18
  obtain ⟨g, c, hvb, -⟩ := own_some18 h.b.o (by rw [h.b.l]; exact h0)
  subst hvb
  have hLl := h.b.l
  have HP0 := hid13 h
  have HB := hid13 hb
  have c0 := h.c0
  obtain ⟨n, hn⟩ : ∃ n, n = P.length := ⟨_, rfl⟩
  rw [hLl, ← hn] at c0
  have HN : Hid (n = P.length ∧ 0 < n ∧ n ≤ 100000000 ∧ L.length = n) := ⟨hn, by omega, by omega, by omega⟩
  have hn0 : 0 < n := by omega
  clear h h0 hl hb hLl hn
  go_enter Try.func77, Try.ntmps77
  go_wp2_with (at_make; apply stopHere9)
  refine (show wpList _ _ _ _ _ _ from ?_)
  refine wpList_make16 _ rfl _ _ 63 rfl 4 i0 (.bool false) Try.underlying63 hi hz0 .i64 .i64 _ _ n n rfl rfl rfl rfl (Nat.le_refl _) (by rw [hz2]; have := HN.out; omega) (by unfold maxLen; have := HN.out; omega) ?_
  have eO : madeCells (Value.bool false).cells (n * i0.size) = ((List.replicate n false).map cBo18).toArray := by rw [hz1, Nat.mul_one, List.map_replicate]; exact made_one16 _ _
  rw [eO]
  clear eO
  obtain ⟨O, hO⟩ : ∃ O : Obj, O = .cells ((List.replicate n false).map cBo18).toArray 4 := ⟨_, rfl⟩
  rw [← hO]
  have q1 := bl1 w O
  have U0 : UsM w0 base Q (.slice (some ⟨g, 0, none⟩) L.length c) L P w.heap.size (List.replicate n false) (w.alloc O) := ⟨HP0.out.below q1, by rw [← hO]; exact new_16 _ _, HP0.out.sz⟩
  obtain ⟨x1, x2⟩ := U0.cell (k := 0) (b := false) (by rw [List.getElem?_replicate_of_lt hn0])
  have HU1 := hid13 (U0.set 0)
  have c1 : ((w.alloc O).setCell ⟨w.heap.size, 0, none⟩ (.bool true)).cell? ⟨Q, 0, none⟩ = some (.slice (some ⟨g, 0, none⟩) n c) := by have := HU1.out.p.c0; rw [HN.out.2.2.2] at this; exact this
  have hn0i : (0 : Int) < (n : Int) := by omega
  have hQn : ¬ Q = w.heap.size := by have := lt_16 HP0.out.g; omega
  have hQn2 : ¬ w.heap.size = Q := fun q => hQn q.symm
  have c2 : (w.alloc O).cell? ⟨Q, 0, none⟩ = some (.slice (some ⟨g, 0, none⟩) n c) := keepc q1 c0
  clear hO q1 U0
  go_wp2_with fail
  clear x1 x2 c1 c0 c2 hQn hQn2
  obtain ⟨Z, hZ⟩ : ∃ Z, Z = w.heap.size := ⟨_, rfl⟩
  rw [← hZ] at HU1 ⊢
  revert HU1
  generalize (w.alloc O).setCell ⟨Z, 0, none⟩ (.bool true) = W0
  intro HU1
  clear hZ HP0 hn0 hn0i
  go_loopg [23] n (fun gk jv wr => ∃ (j : Nat) (A B : List PB), j + gk = n ∧ jv = .int .i64 (j : Int) ∧ Hid (P = A ++ B ∧ A.length = j ∧ UsM w0 base Q (.slice (some ⟨g, 0, none⟩) L.length c) L P Z (A.foldl mkB (mk0 n)) wr))
  case atStart => exact ⟨0, [], P, by omega, rfl, hid13 ⟨rfl, rfl, HU1.out⟩⟩
  case round =>
    clear HU1
    obtain ⟨j, A, B, hk, rfl, HI⟩ := hrel
    by_cases hlt : (j : Int) < (n : Int)
    · obtain ⟨b, B', hB⟩ : ∃ b B', B = b :: B' := by
        cases hB : B with
        | nil =>
          have e1 := HI.out.1
          have e2 := HI.out.2.1
          rw [hB, List.append_nil] at e1
          have := HN.out
          rw [e1] at *
          omega
        | cons b B' => exact ⟨b, B', rfl⟩
      subst hB
      obtain ⟨hPA, hjA, hU⟩ := HI.out
      have hmem : b ∈ P := by rw [hPA]; simp
      have hbb := HB.out b hmem
      have hge : P[j]? = some b := by rw [hPA, ← hjA]; simp
      obtain ⟨x, hx, hxa, hxt, hxo, d0, d1, d2, d3⟩ := hU.p.blk hge
      obtain ⟨so, sc, hso⟩ := own_form hxo.2.2.1
      obtain ⟨eo, ec, heo⟩ := own_form hxo.2.2.2
      rw [hso] at d2
      rw [heo] at d3
      have q1 := bl1 wr (.cells #[.int .i64 b.a, .int .i64 b.t, .slice so b.m.length sc, .slice eo b.es.length ec] 121)
      have HU0 : Hid (UsM w0 base Q (.slice (some ⟨g, 0, none⟩) L.length c) L P Z (([] : List (Bool × Int)).foldl mkX (A.foldl mkB (mk0 n))) (wr.alloc (.cells #[.int .i64 b.a, .int .i64 b.t, .slice so b.m.length sc, .slice eo b.es.length ec] 121))) := hU.below q1
      obtain ⟨GK, hGK⟩ : ∃ GK, GK = gk := ⟨_, rfl⟩
      have HJ : Hid (j + GK = n ∧ GK = gk ∧ j < n) := ⟨by omega, hGK, by omega⟩
      have HX : Hid (P[j]? = some b ∧ L[j]? = some x ∧ x.ve = .slice eo b.es.length ec) := ⟨hge, hx, heo⟩
      have HPA : Hid (P = A ++ b :: B' ∧ A.length = j) := ⟨hPA, hjA⟩
      have HBb := hid13 hbb
      have hsl : (A.foldl mkB (mk0 n)).length = n := by rw [mkA_len]; unfold mk0; simp
      have HSl := hid13 hsl
      have mj : IntKind.i64.wrap ((j : Int) + 1) = ((j + 1 : Nat) : Int) := by rw [IntKind.wrap_i64]; have := HN.out; push_cast; omega
      obtain ⟨ba, hba⟩ : ∃ y, y = b.a := ⟨_, rfl⟩
      obtain ⟨bt, hbt⟩ : ∃ y, y = b.t := ⟨_, rfl⟩
      obtain ⟨bm, hbm⟩ : ∃ y, y = b.m.length := ⟨_, rfl⟩
      obtain ⟨bn, hbn⟩ : ∃ y, y = b.es.length := ⟨_, rfl⟩
      rw [← hba, ← hbt, ← hbm, ← hbn] at HU0
      rw [← hba] at d0
      rw [← hbt] at d1
      rw [← hbm] at d2
      rw [← hbn] at d3 HX HBb
      have HBn := hid13 hbn
      obtain ⟨S0, hS0⟩ : ∃ S0, S0 = A.foldl mkB (mk0 n) := ⟨_, rfl⟩
      rw [← hS0] at HU0 HSl
      have HS0 : Hid (A.foldl mkB (mk0 n) = S0) := hS0.symm
      clear hPA hjA hU hmem hbb hge hx hxa hxt hxo hso heo q1 hGK hk HI hba hbt hbm hbn hsl hS0
      go_wp2_with fail
      revert HU0
      generalize wr.alloc (.cells #[.int .i64 ba, .int .i64 bt, .slice so bm sc, .slice eo bn ec] 121) = W1
      intro HU0
      clear d0 d1 d2 d3
      go_loopg [30] bn (fun gk iv wr2 => ∃ (i : Nat) (X Y : List (Bool × Int)), i + gk = bn ∧ iv = .int .i64 (i : Int) ∧ Hid (b.es = X ++ Y ∧ X.length = i ∧ UsM w0 base Q (.slice (some ⟨g, 0, none⟩) L.length c) L P Z (X.foldl mkX S0) wr2))
      case atStart => exact ⟨0, [], b.es, by omega, rfl, hid13 ⟨rfl, rfl, HU0.out⟩⟩
      case round =>
        clear HU0
        obtain ⟨i, X, Y, hk2, rfl, HI2⟩ := hrel
        by_cases hlt2 : (i : Int) < (bn : Int)
        · obtain ⟨e, Y', hY⟩ : ∃ e Y', Y = e :: Y' := by
            cases hY : Y with
            | nil =>
              have e1 := HI2.out.1
              have e2 := HI2.out.2.1
              have e3 := HBn.out
              rw [e1, hY, List.append_nil] at e3
              omega
            | cons e Y' => exact ⟨e, Y', rfl⟩
          subst hY
          obtain ⟨eb, en⟩ := e
          obtain ⟨hes, hXi, hU⟩ := HI2.out
          have hei : b.es[i]? = some (eb, en) := by rw [hes, ← hXi]; simp
          have hbo := (hU.p.b.m j x b HX.out.2.1 HX.out.1).2.2.2
          rw [← HBn.out, HX.out.2.2] at hbo
          obtain ⟨eg, ec', hee, -⟩ := own_some18 hbo (by omega)
          injection hee with he1 he2 he3
          subst he1 he3
          obtain ⟨r1, r2⟩ := rowE8_get _ _ _ hei
          have k1 := (own_at18 hbo r1).1
          have k2 := (own_at18 hbo r2).1
          dsimp only at k1 k2
          have q1 := bl1 wr (.cells #[.bool eb, .int .i64 en] 151)
          have hU1 := hU.below q1
          have mi : IntKind.i64.wrap ((i : Int) + 1) = ((i + 1 : Nat) : Int) := by rw [IntKind.wrap_i64]; have := HBb.out; push_cast; omega
          have HK2 : Hid (i + gk = bn ∧ i < bn) := ⟨hk2, by omega⟩
          have HEs : Hid (b.es = (X ++ [(eb, en)]) ++ Y' ∧ (X ++ [(eb, en)]).length = i + 1) := ⟨by rw [hes]; simp, by rw [List.length_append, hXi]; rfl⟩
          have hfo : (X ++ [(eb, en)]).foldl mkX S0 = mkX (X.foldl mkX S0) (eb, en) := by rw [List.foldl_append]; rfl
          have hsl : (X.foldl mkX S0).length = n := by rw [mkF_len18]; exact HSl.out
          have hen := HBb.out.2 (eb, en) (List.mem_of_getElem? hei)
          cases eb with
          | false =>
            have HU2 : Hid (UsM w0 base Q (.slice (some ⟨g, 0, none⟩) L.length c) L P Z ((X ++ [(false, en)]).foldl mkX S0) (wr.alloc (.cells #[.bool false, .int .i64 en] 151))) := hid13 (by rw [hfo]; exact hU1)
            clear hes hXi hU hei hbo he2 r1 r2 q1 hk2 HI2 hU1 hfo hsl hen
            go_wp2
            go_roundg (gk - 1)
            case measure => have := HK2.out; omega
            case rel => exact ⟨i + 1, _, _, by have := HK2.out; omega, rfl, hid13 ⟨HEs.out.1, HEs.out.2, HU2.out⟩⟩
          | true =>
            obtain ⟨h5, h6⟩ := hen rfl
            dsimp only at h5 h6
            obtain ⟨k, rfl⟩ : ∃ k : Nat, en = (k : Int) := ⟨en.toNat, by omega⟩
            have hkn : k < n := by have := HN.out; omega
            obtain ⟨b0, hb0⟩ : ∃ b0, (X.foldl mkX S0)[k]? = some b0 := ⟨_, List.getElem?_eq_getElem (by omega)⟩
            obtain ⟨y1, y2⟩ := hU1.cell hb0
            have HU2 : Hid (UsM w0 base Q (.slice (some ⟨g, 0, none⟩) L.length c) L P Z ((X ++ [(true, (k : Int))]).foldl mkX S0) ((wr.alloc (.cells #[.bool true, .int .i64 (k : Int)] 151)).setCell ⟨Z, k, none⟩ (.bool true))) := hid13 (by
              rw [hfo]
              unfold mkX
              rw [if_pos rfl, Int.toNat_natCast]
              exact hU1.set k)
            have hkni : (k : Int) < (n : Int) := by omega
            clear hes hXi hU hei hbo he2 r1 r2 q1 hk2 HI2 hU1 hfo hsl hen h5 h6 hb0 hkn
            go_wp2
            go_roundg (gk - 1)
            case measure => have := HK2.out; omega
            case rel => exact ⟨i + 1, _, _, by have := HK2.out; omega, rfl, hid13 ⟨HEs.out.1, HEs.out.2, HU2.out⟩⟩
        · have HFin : Hid (P = (A ++ [b]) ++ B' ∧ (A ++ [b]).length = j + 1 ∧ UsM w0 base Q (.slice (some ⟨g, 0, none⟩) L.length c) L P Z (mkB S0 b) wr) := hid13 (by
            obtain ⟨hes, hXi, hU⟩ := HI2.out
            have hYn : Y = [] := by
              have e3 := HBn.out
              rw [hes, List.length_append] at e3
              exact List.eq_nil_of_length_eq_zero (by omega)
            rw [hYn, List.append_nil] at hes
            refine ⟨by rw [HPA.out.1]; simp, by rw [List.length_append, HPA.out.2]; rfl, ?_⟩
            unfold mkB
            rw [hes]
            exact hU)
          clear HI2 hk2
          go_wp2
          go_roundg (GK - 1)
          case measure => have := HJ.out; omega
          case rel => exact ⟨j + 1, A ++ [b], B', by have := HJ.out; omega, rfl, hid13 ⟨HFin.out.1, HFin.out.2.1, by rw [List.foldl_append, HS0.out]; exact HFin.out.2.2⟩⟩
    · have hU : UsM w0 base Q (.slice (some ⟨g, 0, none⟩) L.length c) L P Z (mkA P) wr := by
        obtain ⟨hPA, hjA, hU⟩ := HI.out
        have hBn : B = [] := by
          have e2 : P.length = A.length + B.length := by rw [hPA, List.length_append]
          have := HN.out
          exact List.eq_nil_of_length_eq_zero (by omega)
        rw [hBn, List.append_nil] at hPA
        have e : mkA P = A.foldl mkB (mk0 n) := by
          unfold mkA
          rw [← HN.out.1]
          exact congrArg (fun l => l.foldl mkB (mk0 n)) hPA
        rw [e]
        exact hU
      have hml : (mkA P).length = n := by unfold mkA; rw [mkA_len]; unfold mk0; simp [HN.out.1]
      have KI := indexB18 Z n (mkA P) wr hU.z hml (by have := HN.out; omega)
      have HU := hid13 hU
      have HRR : Hid (usR P = if 0 ≤ ixB (mkA P) then ((P.getD (ixB (mkA P)).toNat ⟨0, 0, [], []⟩).a, 31) else (0, 0)) := rfl
      have HIx : Hid (∀ k : Nat, ixB (mkA P) = (k : Int) → k < n) := hid13 (fun k hk => by
        unfold ixB at hk
        cases hf : (mkA P).findIdx? (· == false) with
        | none => rw [hf] at hk; simp at hk
        | some k' =>
          rw [hf] at hk
          have := (List.findIdx?_eq_some_iff_getElem.mp hf).1
          simp at hk
          omega)
      have hxb : -1 ≤ ixB (mkA P) := by unfold ixB; split <;> omega
      generalize ixB (mkA P) = R at *
      clear hU hml HI hk
      go_wp2_with fail
      refine KI.mono ?_
      rintro e W2 ⟨rfl, hw⟩
      replace hw := hw.symm
      subst hw
      clear KI
      by_cases hR0 : 0 ≤ R
      · obtain ⟨k, rfl⟩ : ∃ k : Nat, R = (k : Int) := ⟨R.toNat, by omega⟩
        have hkn := HIx.out k rfl
        obtain ⟨p, hp⟩ : ∃ p, P[k]? = some p := ⟨_, List.getElem?_eq_getElem (by have := HN.out; omega)⟩
        obtain ⟨x, -, -, -, -, d0, -⟩ := HU.out.p.blk hp
        have c0 := HU.out.p.c0
        rw [HN.out.2.2.2] at c0
        have hkni : (k : Int) < (n : Int) := by omega
        have HRf : Hid (usR P = (p.a, 31)) := hid13 (by rw [HRR.out, if_pos hR0, Int.toNat_natCast, List.getD_eq_getElem?_getD, hp]; rfl)
        obtain ⟨pa, hpa⟩ : ∃ pa, pa = p.a := ⟨_, rfl⟩
        rw [← hpa] at d0 HRf
        clear HRR HIx hxb hkn hp hpa
        go_wp2
        exact bodyPost_ret (v := .tuple #[.int .i64 pa, .int .i64 31]) (by simp [results, Try.results77, go_sem]) rfl ⟨by rw [HRf.out], HU.out.p⟩
      · have HRf : Hid (usR P = (0, 0)) := hid13 (by rw [HRR.out, if_neg hR0])
        clear HRR HIx hxb
        go_wp2
        exact bodyPost_ret (v := .tuple #[.int .i64 0, .int .i64 0]) (by simp [results, Try.results77, go_sem]) rfl ⟨by rw [HRf.out], HU.out.p⟩
end Go.Proofs.Ytjgpbahglkaijaa
namespace Go.Proofs.Ytjgpbahglkaijaa
open Go.RowKit
set_option linter.unusedSimpArgs false
set_option linter.unusedVariables false

set_option maxRecDepth 20000 in
set_option maxHeartbeats 4000000 in
theorem last_any18 (G g n c : Nat) (w : World) (h : w.cell? ⟨G, 2, none⟩ = some (.slice (some ⟨g, 0, none⟩) n c)) (hn : 0 < n) (hn2 : n ≤ 1000000000) :
    Calls Try.prog 136 #[.pointer (some ⟨G, 0, none⟩)] w fun e w' => e = .returned (.pointer (some ⟨g, (n - 1) * 4, none⟩)) ∧ Below w.heap.size w w' := by
  have m1 : IntKind.i64.wrap ((n : Int) - 1) = (n : Int) - 1 := by rw [IntKind.wrap_i64]; omega
  have m2 : ((n : Int) - 1).toNat = n - 1 := by omega
  have h1 : (0 : Int) ≤ (n : Int) - 1 := by omega
  have h2 : (n : Int) - 1 < (n : Int) := by omega
  have h' : w.drew.cell? ⟨G, 2, none⟩ = some (.slice (some ⟨g, 0, none⟩) n c) := h
  go_enter Try.func136, Try.ntmps136
  go_wp2
  go_region
  go_wp2
  exact bodyPost_ret (v := .pointer (some ⟨g, (n - 1) * 4, none⟩)) (by simp [results, Try.results136, go_sem, *]) rfl ⟨rfl, (Below.refl _ _).drew⟩
end Go.Proofs.Ytjgpbahglkaijaa
