/-
  Part 26 of the proof: 1 texts, one behind the other.
-/
import Derived.Test.YtdpmhpmnkollaaaPart25
import Derived.Test.YtdpmhpmnkollaaaPart21
import Derived.Test.YtdpmhpmnkollaaaPart3
import Derived.Deep.CutRange
namespace Go.Proofs.Ytdpmhpmnkollaaa
open Go.RowKit Go.Shelf
set_option linter.unusedSimpArgs false
set_option linter.unusedVariables false
attribute [local go_sem] Oper.semAt_some

def rowE : List ((Int × Int) × Value) → List Value
  | [] => []
  | e :: t => .int .i64 e.1.1 :: .int .i64 e.1.2 :: e.2 :: rowE t
theorem rowE_app : ∀ (A : List ((Int × Int) × Value)) (e : (Int × Int) × Value), rowE (A ++ [e]) = rowE A ++ [.int .i64 e.1.1, .int .i64 e.1.2, e.2]
  | [], e => rfl
  | x :: A, e => by
    show _ :: _ :: _ :: rowE (A ++ [e]) = _
    rw [rowE_app A e]; rfl
theorem rowE_get : ∀ (A : List ((Int × Int) × Value)) (j : Nat) (e : (Int × Int) × Value), A[j]? = some e → (rowE A)[j * 3]? = some (.int .i64 e.1.1) ∧ (rowE A)[j * 3 + 1]? = some (.int .i64 e.1.2) ∧ (rowE A)[j * 3 + 2]? = some e.2
  | [], j, e, h => by simp at h
  | x :: A, 0, e, h => by simp at h; subst h; exact ⟨rfl, rfl, rfl⟩
  | x :: A, j + 1, e, h => by
    have := rowE_get A j e (by simpa using h)
    rw [show (j + 1) * 3 = j * 3 + 3 by omega]
    exact this
def BkQ (l : List Nat) (a : Int) (w : World) (e : Ending) (w' : World) : Prop :=
  (∃ bt en n o1 n1 c1 o2 n2 c2, e = .returned (.tuple #[.agg #[.int .i64 a, .int .i64 bt, .slice o1 n1 c1, .int .i64 en, .slice o2 n2 c2], .int .i64 n, .int .i64 (bkE l a).1, .int .i64 (bkE l a).2]) ∧
    ((bkE l a).1 = 0 → bt = (dcI l a).n ∧ en = a + 1 + dcZ l (a + 1) ∧ n = 1 + dcZ l (a + 1) + (sumW (dcI l (a + 1)).m (dcI l (a + 1)).m.length : Nat) ∧ w'.ownsRow w.heap.size 96 1 (.slice o1 n1 c1) (dcI l (a + 1)).m.length ((dcI l (a + 1)).m.map cU) ∧ ∃ es, w'.ownsRow w.heap.size 67 3 (.slice o2 n2 c2) es.length (rowE es) ∧ es.map Prod.fst = (enG l (a + 1 + dcZ l (a + 1)) (sumW (dcI l (a + 1)).m (dcI l (a + 1)).m.length) 0 []).1 ∧ ∀ e ∈ es, ∃ ao n c, e.2 = Value.slice ao n c)) ∧ Below w.heap.size w w'
theorem bkq_no {l : List Nat} {a : Int} {w w' : World} {bt en n err wd : Int} {o1 o2 : Option Addr} {n1 c1 n2 c2 : Nat} (h : bkE l a = (err, wd)) (he : err ≠ 0) (hb : Below w.heap.size w w') : BkQ l a w (.returned (.tuple #[.agg #[.int .i64 a, .int .i64 bt, .slice o1 n1 c1, .int .i64 en, .slice o2 n2 c2], .int .i64 n, .int .i64 err, .int .i64 wd])) w' :=
  ⟨⟨bt, en, n, o1, n1, c1, o2, n2, c2, by rw [h], fun h0 => absurd (by rw [h] at h0; exact h0) he⟩, hb⟩
structure BkV (w : World) (a bt en : Int) (vm ve : Value) (W : World) : Prop where
  r : W.heap[w.heap.size]? = some (.cells #[.int .i64 0, .int .i64 0, .slice none 0 0, .int .i64 0, .slice none 0 0] 72)
  x : W.heap[w.heap.size + 1]? = some (.cells #[.int .i64 a, .int .i64 bt, vm, .int .i64 en, ve] 72)
  b : Below w.heap.size w W
section
variable {w W W' : World} {a bt en : Int} {vm ve : Value}
theorem BkV.below (h : BkV w a bt en vm ve W) (hb : Below W.heap.size W W') : BkV w a bt en vm ve W' := ⟨(hb.block _ (lt_16 h.r)).trans h.r, (hb.block _ (lt_16 h.x)).trans h.x, keepb hb h.b⟩
theorem BkV.s1 (h : BkV w a bt en vm ve W) (y : Int) : BkV w a y en vm ve (W.setCell ⟨w.heap.size + 1, 1, none⟩ (.int .i64 y)) := ⟨(far_16 (by omega)).trans h.r, by rw [set_16 h.x]; rfl, h.b.setCell (p := ⟨w.heap.size + 1, 1, none⟩) (Nat.le_succ _) _⟩
theorem BkV.s2 (h : BkV w a bt en vm ve W) (y : Value) : BkV w a bt en y ve (W.setCell ⟨w.heap.size + 1, 2, none⟩ y) := ⟨(far_16 (by omega)).trans h.r, by rw [set_16 h.x]; rfl, h.b.setCell (p := ⟨w.heap.size + 1, 2, none⟩) (Nat.le_succ _) _⟩
theorem BkV.s3 (h : BkV w a bt en vm ve W) (y : Int) : BkV w a bt y vm ve (W.setCell ⟨w.heap.size + 1, 3, none⟩ (.int .i64 y)) := ⟨(far_16 (by omega)).trans h.r, by rw [set_16 h.x]; rfl, h.b.setCell (p := ⟨w.heap.size + 1, 3, none⟩) (Nat.le_succ _) _⟩
theorem BkV.s4 (h : BkV w a bt en vm ve W) (y : Value) : BkV w a bt en vm y (W.setCell ⟨w.heap.size + 1, 4, none⟩ y) := ⟨(far_16 (by omega)).trans h.r, by rw [set_16 h.x]; rfl, h.b.setCell (p := ⟨w.heap.size + 1, 4, none⟩) (Nat.le_succ _) _⟩
theorem BkV.far (h : BkV w a bt en vm ve W) {B o : Nat} (u : Value) (hB : w.heap.size + 1 < B) : BkV w a bt en vm ve (W.setCell ⟨B, o, none⟩ u) := ⟨(far_16 (by omega)).trans h.r, (far_16 (by omega)).trans h.x, h.b.setCell (p := ⟨B, o, none⟩) (by show w.heap.size ≤ B; omega) _⟩
end
theorem Try.infoIn18 : (Try.prog.info? 67).map (fun i => (i.zero, i.size, i.bytes)) = some (some (.agg #[.int .i64 0, .int .i64 0, .slice none 0 0]), 3, 40) := by kernel_rfl
theorem BkV.grown {w W W' : World} {a bt en : Int} {vm ve v : Value} {row : Option Nat} (h : BkV w a bt en vm ve W) (hg : W.grownBy W' row) (hr : ∀ z, row = some z → w.heap.size + 2 ≤ z) : BkV w a bt en vm ve W' :=
  ⟨(hg.block _ (lt_16 h.r) (fun e => by have := hr _ e.symm; omega)).trans h.r, (hg.block _ (lt_16 h.x) (fun e => by have := hr _ e.symm; omega)).trans h.x, h.b.grown hg h.b.size (fun r e => by have := hr _ e; omega)⟩
theorem own_other18 {W W' : World} {base base' e e' s s' n n' : Nat} {v u : Value} {xs ys : List Value} (h : W.ownsRow base e s v n xs) (k : W.ownsRow base' e' s' u n' ys) (hne : e' ≠ e) (hg : W.grownBy W' u.ownBlock) : W'.ownsRow base e s v n xs := by
  refine h.kept hg ?_
  cases hv : v.ownBlock with
  | none => exact .inl rfl
  | some z =>
    refine .inr fun e => ?_
    exact own_type k h hne e.symm hv
theorem news_three18 (w : World) (x y z : Value) (T : TypeId) : ∀ j u, [x, y, z][j]? = some u → (w.alloc (.cells #[x, y, z] T)).cell? ((⟨w.heap.size, 0, none⟩ : Addr).add j) = some u := by
  intro j u hj
  match j, hj with
  | 0, hj => simp at hj; subst hj; simp [go_sem, Addr.add]
  | 1, hj => simp at hj; subst hj; simp [go_sem, Addr.add]
  | 2, hj => simp at hj; subst hj; simp [go_sem, Addr.add]
  | n + 3, hj => simp at hj
theorem one_three18 (a b : Int) (ao : Option Addr) (n c : Nat) : ∀ u ∈ [Value.int .i64 a, .int .i64 b, .slice ao n c], u.oneCell' = true := by
  intro u hu
  simp at hu
  rcases hu with rfl | rfl | rfl <;> rfl
theorem bkq_ok {l : List Nat} {a : Int} {w W : World} {bt en n : Int} {vm ve : Value} {M : List (BitVec 32)} {es : List ((Int × Int) × Value)} {c0 c1 c2 c3 c4 : Value} (hE : bkE l a = (0, 0)) (h1 : (dcI l a).n = bt) (h2 : en = a + 1 + dcZ l (a + 1)) (hM : (dcI l (a + 1)).m = M) (h3 : n = 1 + dcZ l (a + 1) + (sumW M M.length : Nat))
    (hm : W.ownsRow (w.heap.size + 2) 96 1 vm M.length (M.map cU)) (he : W.ownsRow (w.heap.size + 2) 67 3 ve es.length (rowE es)) (hes : (enG l en (sumW M M.length) 0 []).1 = es.map Prod.fst) (hsl : ∀ e ∈ es, ∃ ao n c, e.2 = Value.slice ao n c)
    (hb : Below w.heap.size w (((((W.setCell ⟨w.heap.size, 0, none⟩ c0).setCell ⟨w.heap.size, 1, none⟩ c1).setCell ⟨w.heap.size, 2, none⟩ c2).setCell ⟨w.heap.size, 3, none⟩ c3).setCell ⟨w.heap.size, 4, none⟩ c4)) :
    BkQ l a w (.returned (.tuple #[.agg #[.int .i64 a, .int .i64 bt, vm, .int .i64 en, ve], .int .i64 n, .int .i64 0, .int .i64 0])) (((((W.setCell ⟨w.heap.size, 0, none⟩ c0).setCell ⟨w.heap.size, 1, none⟩ c1).setCell ⟨w.heap.size, 2, none⟩ c2).setCell ⟨w.heap.size, 3, none⟩ c3).setCell ⟨w.heap.size, 4, none⟩ c4) := by
  have n1 : vm.ownBlock ≠ some w.heap.size := fun e => by have := own_ge16 hm e; omega
  have n2 : ve.ownBlock ≠ some w.heap.size := fun e => by have := own_ge16 he e; omega
  obtain ⟨o1, c1', hvm⟩ := own_form hm
  obtain ⟨o2, c2', hve⟩ := own_form he
  subst hvm hve
  refine ⟨⟨bt, en, n, o1, M.length, c1', o2, es.length, c2', by rw [hE], fun _ => ⟨h1.symm, h2, ?_, ?_, ?_⟩⟩, hb⟩
  · rw [h3, hM]
  · rw [hM]
    exact own_base16 (own_far16 (own_far16 (own_far16 (own_far16 (own_far16 hm _ n1) _ n1) _ n1) _ n1) _ n1) (by omega)
  · rw [hM, ← h2, hes]
    exact ⟨es, own_base16 (own_far16 (own_far16 (own_far16 (own_far16 (own_far16 he _ n2) _ n2) _ n2) _ n2) _ n2) (by omega), rfl, hsl⟩
theorem last_fst18 (A : List ((Int × Int) × Value)) (e : (Int × Int) × Value) : ((A ++ [e]).map Prod.fst).getLast? = some e.1 := by
  rw [List.map_append]
  show (A.map Prod.fst ++ [e.1]).getLast? = _
  rw [List.getLast?_append]; rfl
set_option maxRecDepth 100000 in
set_option maxHeartbeats 16000000 in
theorem rblock18 (v : Value) (l : List Nat) (a : Nat) (w : World) (hv : RwX cB w v l) (hl : l.length ≤ 10000000) (hx : ∀ b ∈ l, b < 256) (ha : a ≤ 10000000) :
    Calls Try.prog 39 #[v, .int .i64 (a : Int)] w (BkQ l (a : Int) w) := by
  obtain ⟨ao, c, rfl, -⟩ := id hv
  have HV := hid13 hv
  have KD := fun p W (h : RwX cB W (.slice ao l.length c) l) => rdecode14 (.slice ao l.length c) l p W h hl hx
  have HKD := hid13 KD
  have Y0 : BkV w (a : Int) 0 0 (.slice none 0 0) (.slice none 0 0) ((w.alloc (.cells #[.int .i64 0, .int .i64 0, .slice none 0 0, .int .i64 0, .slice none 0 0] 72)).alloc (.cells #[.int .i64 (a : Int), .int .i64 0, .slice none 0 0, .int .i64 0, .slice none 0 0] 72)) := by
    refine ⟨old_16 _ (new_16 _ _), ?_, bl2 w _ _⟩
    have := new_16 (w.alloc (.cells #[.int .i64 0, .int .i64 0, .slice none 0 0, .int .i64 0, .slice none 0 0] 72)) (.cells #[.int .i64 (a : Int), .int .i64 0, .slice none 0 0, .int .i64 0, .slice none 0 0] 72)
    rwa [World.size_alloc] at this
  have HY := hid13 Y0
  have K1 := HKD.out (a : Int) _ (HV.out.below Y0.b)
  have HA : Hid (a ≤ 10000000) := ha
  have HXx := hid13 hx
  clear hv KD Y0 hl hx ha
  go_enter Try.func39, Try.ntmps39
  go_wp2_with fail
  refine K1.mono ?_
  rintro e w1 ⟨v1, rfl, ho1, hb1⟩
  have HY1 := hid13 (HY.out.below hb1)
  have HE1 := hid13 (show dcE l (a : Int) ≠ 0 → bkE l (a : Int) = (dcE l (a : Int), (a : Int)) from fun h => by unfold bkE; rw [if_pos h])
  have HE2 := hid13 (show dcE l (a : Int) = 0 → (dcI l (a : Int)).op ≠ 1 → bkE l (a : Int) = (24, (a : Int)) from fun h h2 => by unfold bkE; rw [if_neg (by simpa using h), if_pos h2])
  have HE3 := hid13 (show dcE l (a : Int) = 0 → (dcI l (a : Int)).op = 1 → bkE l (a : Int) = if dcE l ((a : Int) + 1) ≠ 0 then (dcE l ((a : Int) + 1), (a : Int) + 1) else if (dcI l ((a : Int) + 1)).op ≠ 2 then (24, (a : Int) + 1) else
    if (dcI l ((a : Int) + 1)).n ≠ (dcI l (a : Int)).n then (25, (a : Int) + 1) else (enG l ((a : Int) + 1 + dcZ l ((a : Int) + 1)) (sumW (dcI l ((a : Int) + 1)).m (dcI l ((a : Int) + 1)).m.length) 0 []).2 from fun h h2 => by conv => lhs; unfold bkE; rw [if_neg (by simpa using h), if_neg (by simpa using h2)])
  have HI1 := hid13 (new_16 w1 (.cells #[.int .i64 (dcI l (a : Int)).op, .int .i64 (dcI l (a : Int)).n, v1] 67))
  have q2 := bl1 w1 (.cells #[.int .i64 (dcI l (a : Int)).op, .int .i64 (dcI l (a : Int)).n, v1] 67)
  have HY2 := hid13 (HY1.out.below q2)
  obtain ⟨o1, c1, hv1⟩ := own_form ho1
  unfold insV
  generalize (dcI l (a : Int)).m.length = ml1 at *
  subst hv1
  have HQn : Hid ((dcI l (a : Int)).n = (dcI l (a : Int)).n) := rfl
  clear K1 ho1 hb1 q2 HY
  by_cases hE1 : dcE l (a : Int) = 0
  · by_cases hO1 : (dcI l (a : Int)).op = 1
    · have HEE := hid13 (HE3.out hE1 hO1)
      rw [hE1, hO1]
      rw [hO1] at HY2 HI1
      have x1 := at_16 HY2.out.x 1 _ rfl
      have fx1 := fr_16 (j := 1) HY2.out.x
      have i1 := at_16 HI1.out 1 _ rfl
      have i0 := at_16 HI1.out 0 _ rfl
      have HY3 := hid13 (HY2.out.s1 (dcI l (a : Int)).n)
      have HI3 : Hid (((w1.alloc (.cells #[.int .i64 1, .int .i64 (dcI l (a : Int)).n, .slice o1 ml1 c1] 67)).setCell ⟨w.heap.size + 1, 1, none⟩ (.int .i64 (dcI l (a : Int)).n)).heap[w1.heap.size]? = some (.cells #[.int .i64 1, .int .i64 (dcI l (a : Int)).n, .slice o1 ml1 c1] 67)) := (far_16 (by have := lt_16 HY1.out.x; omega)).trans HI1.out
      have K2 := HKD.out ((a : Int) + 1) _ (HV.out.below HY3.out.b)
      have mA : IntKind.i64.wrap ((a : Int) + 1) = (a : Int) + 1 := by rw [IntKind.wrap_i64]; have := HA.out; omega
      generalize hN1g : (dcI l (a : Int)).n = N1 at *
      have HN1 := hid13 hN1g
      clear hN1g
      generalize dcZ l (a : Int) = Z1 at *
      have HNb : Hid (w.heap.size + 1 < w1.heap.size) := lt_16 HY1.out.x
      clear hO1 hE1 HE1 HE2 HE3 HQn
      go_wp2_with fail
      refine K2.mono ?_
      rintro e w3 ⟨v2, rfl, ho2, hb3⟩
      have HY4 := hid13 (HY3.out.below hb3)
      have HI4 := hid13 ((hb3.block _ (lt_16 HI3.out)).trans HI3.out)
      obtain ⟨o2, c2, hv2⟩ := own_form ho2
      have HO2 := hid13 ho2
      unfold insV
      subst hv2
      have j0 := at_16 HI4.out 0 _ rfl
      have j1 := at_16 HI4.out 1 _ rfl
      have j2 := at_16 HI4.out 2 _ rfl
      have g0 := fr_16 (j := 0) HI4.out
      have g1 := fr_16 (j := 1) HI4.out
      have g2 := fr_16 (j := 2) HI4.out
      have x1 := at_16 HY4.out.x 1 _ rfl
      generalize hEd : dcE l ((a : Int) + 1) = E2 at *
      generalize hId : dcI l ((a : Int) + 1) = I2 at *
      generalize hZd : dcZ l ((a : Int) + 1) = Z2 at *
      obtain ⟨O2, N2, M⟩ := I2
      dsimp only at HO2 HEE ⊢
      clear K2 ho2 hb3 HY3 HI3 HY2 HI1 i0 i1
      have HY5 : Hid (BkV w (a : Int) N1 0 (.slice none 0 0) (.slice none 0 0) (((w3.setCell ⟨w1.heap.size, 0, none⟩ (.int .i64 O2)).setCell ⟨w1.heap.size, 1, none⟩ (.int .i64 N2)).setCell ⟨w1.heap.size, 2, none⟩ (.slice o2 M.length c2))) := hid13 (((HY4.out.far _ HNb.out).far _ HNb.out).far _ HNb.out)
      have HI5 : Hid ((((w3.setCell ⟨w1.heap.size, 0, none⟩ (.int .i64 O2)).setCell ⟨w1.heap.size, 1, none⟩ (.int .i64 N2)).setCell ⟨w1.heap.size, 2, none⟩ (.slice o2 M.length c2)).heap[w1.heap.size]? = some (.cells #[.int .i64 O2, .int .i64 N2, .slice o2 M.length c2] 67)) := by
        show _ = _
        rw [set_16 (set_16 (set_16 HI4.out _) _) _]; rfl
      have k0 := at_16 HI5.out 0 _ rfl
      have k1 := at_16 HI5.out 1 _ rfl
      have k2 := at_16 HI5.out 2 _ rfl
      have y1 := at_16 HY5.out.x 1 _ rfl
      by_cases hE2 : E2 = 0
      · subst hE2
        rw [if_neg (by simp)] at HEE
        by_cases hO2 : O2 = 2
        · rw [if_neg (by simpa using hO2)] at HEE
          by_cases hN : N2 = N1
          · rw [if_neg (by simpa using hN)] at HEE
            subst hN
            subst hO2
            have hZ2 : Z2 = 1 + (M.length : Int) := by rw [← hZd, dcZ_zero hEd, hId]
            have hMl : M.length ≤ 524288 := by have := dcI_len14 l ((a : Int) + 1); rw [hId] at this; exact this
            obtain ⟨en, hen⟩ : ∃ en : Nat, en = a + 1 + (1 + M.length) := ⟨_, rfl⟩
            have mZ : IntKind.i64.wrap ((a : Int) + 1 + Z2) = (en : Int) := by rw [IntKind.wrap_i64]; have := HA.out; omega
            have HB3 : Hid (w1.heap.size + 1 ≤ (((w1.alloc (.cells #[.int .i64 1, .int .i64 N2, .slice o1 ml1 c1] 67)).setCell ⟨w.heap.size + 1, 1, none⟩ (.int .i64 N2)).heap.size)) := by show _ ≤ _; simp
            have HO4 : Hid ((((w3.setCell ⟨w1.heap.size, 0, none⟩ (.int .i64 2)).setCell ⟨w1.heap.size, 1, none⟩ (.int .i64 N2)).setCell ⟨w1.heap.size, 2, none⟩ (.slice o2 M.length c2)).ownsRow (w.heap.size + 2) 96 1 (.slice o2 M.length c2) M.length (M.map cU)) := by
              have hge : ∀ z, (Value.slice o2 M.length c2).ownBlock = some z → w1.heap.size + 1 ≤ z := fun z hz => Nat.le_trans HB3.out (own_ge16 HO2.out hz)
              have hne : (Value.slice o2 M.length c2).ownBlock ≠ some w1.heap.size := fun e => by have := hge _ e; omega
              exact own_base16 (own_far16 (own_far16 (own_far16 HO2.out _ hne) _ hne) _ hne) (by have := HB3.out; have := HNb.out; omega)
            have y2 := at_16 HY5.out.x 2 _ rfl
            have y3 := at_16 HY5.out.x 3 _ rfl
            have fy2 := fr_16 (j := 2) HY5.out.x
            have fy3 := fr_16 (j := 3) HY5.out.x
            have HY6 := hid13 ((HY5.out.s2 (.slice o2 M.length c2)).s3 (en : Int))
            have HO6 := hid13 (own_far16 (own_far16 HO4.out (B := w.heap.size + 1) (o := 2) (.slice o2 M.length c2) (fun e => by have := own_ge16 HO4.out e; omega)) (B := w.heap.size + 1) (o := 3) (.int .i64 (en : Int)) (fun e => by have := own_ge16 HO4.out e; omega))
            have k2' : ((((w3.setCell ⟨w1.heap.size, 0, none⟩ (.int .i64 2)).setCell ⟨w1.heap.size, 1, none⟩ (.int .i64 N2)).setCell ⟨w1.heap.size, 2, none⟩ (.slice o2 M.length c2)).setCell ⟨w.heap.size + 1, 2, none⟩ (.slice o2 M.length c2)).cell? ⟨w.heap.size + 1, 3, none⟩ = some (.int .i64 0) := at_16 (HY5.out.s2 (.slice o2 M.length c2)).x 3 _ rfl
            have k3' : (((((w3.setCell ⟨w1.heap.size, 0, none⟩ (.int .i64 2)).setCell ⟨w1.heap.size, 1, none⟩ (.int .i64 N2)).setCell ⟨w1.heap.size, 2, none⟩ (.slice o2 M.length c2)).setCell ⟨w.heap.size + 1, 2, none⟩ (.slice o2 M.length c2)).setCell ⟨w.heap.size + 1, 3, none⟩ (.int .i64 (en : Int))).cell? ⟨w1.heap.size, 2, none⟩ = some (.slice o2 M.length c2) := at_16 ((far_16 (by have := HNb.out; omega)).trans ((far_16 (by have := HNb.out; omega)).trans HI5.out)) 2 _ rfl
            have KN := rones13 _ M _ (own_rwx HO6.out) (by omega)
            obtain ⟨ON, hON⟩ : ∃ ON, ON = sumW M M.length := ⟨_, rfl⟩
            rw [← hON] at KN HEE
            have HON : Hid (ON ≤ 32 * M.length ∧ M.length ≤ 524288 ∧ en = a + 1 + (1 + M.length)) := hid13 ⟨by rw [hON]; exact sumW_le _ _, hMl, hen⟩
            have HEZ : Hid ((a : Int) + 1 + Z2 = (en : Int)) := by show _ = _; rw [hen, hZ2]; push_cast; omega
            rw [HEZ.out] at HEE
            have HId := hid13 hId
            have HZd := hid13 hZd
            have HZ2 := hid13 hZ2
            have HONe := hid13 hON
            clear HY4 HI4 HY5 HI5 HO2 HO4 hMl hen hON hZ2 hId hEd hZd
            go_wp2_with fail
            refine KN.mono ?_
            rintro e w6 ⟨rfl, hw6⟩
            rw [← hw6] at HY6 HO6
            obtain ⟨RES, hRES⟩ : ∃ RES, RES = enG l (en : Int) ON 0 [] := ⟨_, rfl⟩
            rw [← hRES] at HEE
            have HRs := hid13 hRES.symm
            have HRs0 := hid13 hRES.symm
            obtain ⟨n0, hn, hn0, hn1, hn2⟩ := info13 Try.infoIn18
            clear KN hw6 k0 k1 k2 y1 y2 y3 fy2 fy3 k2' k3' hRES j0 j1 j2 g0 g1 g2 x1 fx1
            go_wp2_with fail
            go_loopg [14] ON (fun g kv wr => ∃ (k : Nat) (es : List ((Int × Int) × Value)) (oe : Option Addr) (ce : Nat), k + g = ON ∧ kv = .int .i64 (k : Int) ∧ Hid (es.length = k ∧ (∀ e ∈ es, 0 ≤ e.1.2 ∧ e.1.2 ≤ 16777215 ∧ ∃ ao n c, e.2 = Value.slice ao n c) ∧ enG l (en : Int) g k (es.map Prod.fst) = RES ∧ BkV w (a : Int) N2 (en : Int) (.slice o2 M.length c2) (.slice oe k ce) wr ∧ wr.ownsRow (w.heap.size + 2) 96 1 (.slice o2 M.length c2) M.length (M.map cU) ∧ wr.ownsRow (w.heap.size + 2) 67 3 (.slice oe k ce) k (rowE es)))
            case atStart => exact ⟨0, [], none, 0, by omega, rfl, hid13 ⟨rfl, (fun e he => by cases he), HRs.out, HY6.out, HO6.out, World.ownsRow_nil _ _ _ _⟩⟩
            case round =>
              clear HY6 HO6 HRs
              obtain ⟨k, es, oe, ce, hk, rfl, HI⟩ := hrel
              have HSl := hid13 HI.out.1
              have HBd := hid13 HI.out.2.1
              have x3 := at_16 HI.out.2.2.2.1.x 3 _ rfl
              by_cases hlt : (k : Int) < (ON : Int)
              · have K3 := HKD.out ((en : Int) + (k : Int)) wr (HV.out.below HI.out.2.2.2.1.b)
                have HErr : Hid (∀ ee, enE l ((en : Int) + (k : Int)) (es.map Prod.fst) = ee → ee ≠ 0 → bkE l (a : Int) = (ee, (en : Int) + (k : Int))) := fun ee h1 h2 => by
                  rw [HEE.out, ← HI.out.2.2.1, show gk = (gk - 1) + 1 by omega, enG_succ, h1, if_neg h2]
                have HGo0 : Hid (enE l ((en : Int) + (k : Int)) (es.map Prod.fst) = 0 → enG l (en : Int) (gk - 1) (k + 1) (es.map Prod.fst ++ [((dcI l ((en : Int) + (k : Int))).op, (dcI l ((en : Int) + (k : Int))).n)]) = RES) := fun h1 => by
                  rw [← HI.out.2.2.1, show gk = (gk - 1) + 1 by omega, enG_succ, if_pos h1]; rfl
                have HEn : Hid (enE l ((en : Int) + (k : Int)) (es.map Prod.fst) = if dcE l ((en : Int) + (k : Int)) ≠ 0 then dcE l ((en : Int) + (k : Int)) else if (dcI l ((en : Int) + (k : Int))).op < 3 then 24 else
                  match (es.map Prod.fst).getLast? with
                  | none => 0
                  | some j => if j.1 = (dcI l ((en : Int) + (k : Int))).op ∧ ((dcI l ((en : Int) + (k : Int))).op = 4 ∧ (dcI l ((en : Int) + (k : Int))).n = j.2 ∨ (dcI l ((en : Int) + (k : Int))).op = 3 ∧ (dcI l ((en : Int) + (k : Int))).n = j.2 - 1) then 25 else 0) := rfl
                have mP : IntKind.i64.wrap ((en : Int) + (k : Int)) = (en : Int) + (k : Int) := by rw [IntKind.wrap_i64]; have := HON.out; have := HA.out; omega
                have mk : IntKind.i64.wrap ((k : Int) + 1) = (k : Int) + 1 := by rw [IntKind.wrap_i64]; have := HON.out; omega
                have h63 : k + 1 ≤ maxLen := by unfold maxLen; have := HON.out; omega
                have h47 : (k + 1) * 40 ≤ 140737488355328 := by have := HON.out; omega
                have HK : Hid (k + gk = ON ∧ k < ON) := ⟨hk, by omega⟩
                clear hk
                go_wp2_with fail
                refine K3.mono ?_
                rintro e w7 ⟨v3, rfl, ho7, hb7⟩
                obtain ⟨o3, c3, hv3⟩ := own_form ho7
                have q7 := bl1 w7 (.cells #[.int .i64 (dcI l ((en : Int) + (k : Int))).op, .int .i64 (dcI l ((en : Int) + (k : Int))).n, v3] 67)
                have HY7 := hid13 ((HI.out.2.2.2.1.below hb7).below q7)
                have HM7 := hid13 (own_b13 q7 (own_b13 hb7 HI.out.2.2.2.2.1))
                have HE7 := hid13 (own_b13 q7 (own_b13 hb7 HI.out.2.2.2.2.2))
                have HI7 := hid13 (new_16 w7 (.cells #[.int .i64 (dcI l ((en : Int) + (k : Int))).op, .int .i64 (dcI l ((en : Int) + (k : Int))).n, v3] 67))
                unfold insV
                have HN30 : Hid (dcE l ((en : Int) + (k : Int)) = 0 → 0 ≤ (dcI l ((en : Int) + (k : Int))).n ∧ (dcI l ((en : Int) + (k : Int))).n ≤ 16777215) := fun h0 => (chk_zero (enc_dec l _ HXx.out h0).1).2.1
                generalize (dcI l ((en : Int) + (k : Int))).m.length = M3 at *
                subst hv3
                generalize dcE l ((en : Int) + (k : Int)) = E3 at *
                generalize (dcI l ((en : Int) + (k : Int))).op = O3 at *
                generalize (dcI l ((en : Int) + (k : Int))).n = N3 at *
                generalize dcZ l ((en : Int) + (k : Int)) = Z3 at *
                generalize enE l ((en : Int) + (k : Int)) (es.map Prod.fst) = e3 at *
                have i0 := at_16 HI7.out 0 _ rfl
                have i1 := at_16 HI7.out 1 _ rfl
                have i2 := at_16 HI7.out 2 _ rfl
                have HN3 := hid13 (HN30.out)
                clear K3 ho7 hb7 q7 HI x3
                by_cases hE3 : E3 = 0
                · subst hE3
                  replace HN3 : Hid (0 ≤ N3 ∧ N3 ≤ 16777215) := HN3.out rfl
                  rw [if_neg (by simp)] at HEn
                  by_cases hO3 : O3 < 3
                  · have HB := hid13 (HErr.out 24 (by rw [HEn.out, if_pos hO3]) (by decide))
                    clear HErr HGo0 HEn
                    have r0 := at_16 HY7.out.r 0 _ rfl
                    have f0 := fr_16 (j := 0) HY7.out.r
                    have x0 := at_16 HY7.out.x 0 _ rfl
                    have r1 := at_16 HY7.out.r 1 _ rfl
                    have f1 := fr_16 (j := 1) HY7.out.r
                    have x1 := at_16 HY7.out.x 1 _ rfl
                    have r2 := at_16 HY7.out.r 2 _ rfl
                    have f2 := fr_16 (j := 2) HY7.out.r
                    have x2 := at_16 HY7.out.x 2 _ rfl
                    have r3 := at_16 HY7.out.r 3 _ rfl
                    have f3 := fr_16 (j := 3) HY7.out.r
                    have x3 := at_16 HY7.out.x 3 _ rfl
                    have r4 := at_16 HY7.out.r 4 _ rfl
                    have f4 := fr_16 (j := 4) HY7.out.r
                    have x4 := at_16 HY7.out.x 4 _ rfl
                    have HF := hid13 (((((HY7.out.b.setCell (p := ⟨w.heap.size, 0, none⟩) (Nat.le_refl _) (.int .i64 (a : Int))).setCell (p := ⟨w.heap.size, 1, none⟩) (Nat.le_refl _) (.int .i64 (N2))).setCell (p := ⟨w.heap.size, 2, none⟩) (Nat.le_refl _) (.slice o2 M.length c2)).setCell (p := ⟨w.heap.size, 3, none⟩) (Nat.le_refl _) (.int .i64 ((en : Int)))).setCell (p := ⟨w.heap.size, 4, none⟩) (Nat.le_refl _) (.slice oe k ce))
                    go_wp2
                    refine bodyPost_ret (v := .tuple #[.agg #[.int .i64 (a : Int), .int .i64 (N2), .slice o2 M.length c2, .int .i64 ((en : Int)), .slice oe k ce], .int .i64 (0), .int .i64 (24), .int .i64 ((en : Int) + (k : Int))]) (by simp [results, Try.results39, go_sem, *]) rfl (bkq_no HB.out (by decide) HF.out)
                  · rw [if_neg hO3] at HEn
                    by_cases hk0 : k = 0
                    · have hes : es = [] := List.eq_nil_of_length_eq_zero (by rw [HSl.out, hk0])
                      have HGo := hid13 (HGo0.out (by rw [HEn.out, hes]; rfl))
                      have hkn : ¬ (0 : Int) < (k : Int) := by omega
                      clear HErr HGo0 HEn hk0 hes
                      have T0 := bl1 (w7.alloc (.cells #[.int .i64 O3, .int .i64 N3, .slice o3 M3 c3] 67)) (.cells #[.int .i64 O3, .int .i64 N3, .slice o3 M3 c3] 67)
                      have HYt := hid13 (HY7.out.below T0)
                      have HMt := hid13 (own_b13 T0 HM7.out)
                      have HEt := hid13 (own_b13 T0 HE7.out)
                      have hbs : w.heap.size + 2 ≤ ((w7.alloc (.cells #[.int .i64 O3, .int .i64 N3, .slice o3 M3 c3] 67)).alloc (.cells #[.int .i64 O3, .int .i64 N3, .slice o3 M3 c3] 67)).heap.size := by have := lt_16 HYt.out.x; omega
                      have z4 := at_16 HY7.out.x 4 _ rfl
                      clear T0
                      go_wp2_with (at_builtin; apply stopHere9)
                      refine (show wpList _ _ _ _ _ _ from ?_)
                      refine wpList_append_lies _ rfl _ _ 70 rfl (w.heap.size + 2) 67 n0 (.agg #[.int .i64 0, .int .i64 0, .slice none 0 0]) 3 40 Try.underlying70 hn hn0 hn1 hn2 rfl (by decide) _ _ _ rfl HEt.out ⟨w7.heap.size + 1, 0, none⟩ 1 1 [.int .i64 O3, .int .i64 N3, .slice o3 M3 c3] rfl rfl (by have h9 := news_three18 (w7.alloc (.cells #[.int .i64 O3, .int .i64 N3, .slice o3 M3 c3] 67)) (.int .i64 O3) (.int .i64 N3) (.slice o3 M3 c3) 67; rwa [World.size_alloc] at h9) (one_three18 _ _ _ _ _) (by decide) h63 h47 hbs _ rfl ?_
                      intro g9 cap9 w9 hown9 hgrow hat hlt9
                      have HYg := hid13 (HYt.out.grown (v := .slice none 0 0) hgrow (fun z hz => own_ge16 HEt.out hz))
                      have HMg := hid13 (own_other18 HMt.out HEt.out (by decide) hgrow)
                      have u4 := at_16 HYg.out.x 4 _ rfl
                      have fu4 := fr_16 (j := 4) HYg.out.x
                      have HY9 := hid13 (HYg.out.s4 (.slice (some ⟨g9, 0, none⟩) (k + 1) cap9))
                      have HM9 := hid13 (own_far16 HMg.out (B := w.heap.size + 1) (o := 4) (.slice (some ⟨g9, 0, none⟩) (k + 1) cap9) (fun e => by have := own_ge16 HMg.out e; omega))
                      have HE9 : Hid ((w9.setCell ⟨w.heap.size + 1, 4, none⟩ (.slice (some ⟨g9, 0, none⟩) (k + 1) cap9)).ownsRow (w.heap.size + 2) 67 3 (.slice (some ⟨g9, 0, none⟩) (k + 1) cap9) (k + 1) (rowE (es ++ [((O3, N3), .slice o3 M3 c3)]))) := hid13 (by
                        rw [rowE_app]
                        exact own_far16 hown9 _ (fun e => by have := own_ge16 hown9 e; omega))
                      have HG9 : Hid (enG l (en : Int) (gk - 1) (k + 1) ((es ++ [((O3, N3), Value.slice o3 M3 c3)]).map Prod.fst) = RES) := by show _ = _; rw [List.map_append]; exact HGo.out
                      have HBd9 : Hid (∀ e ∈ es ++ [((O3, N3), Value.slice o3 M3 c3)], 0 ≤ e.1.2 ∧ e.1.2 ≤ 16777215 ∧ ∃ ao n c, e.2 = Value.slice ao n c) := fun e he => by
                        rcases List.mem_append.mp he with h | h
                        · exact HBd.out e h
                        · simp at h; subst h; exact ⟨HN3.out.1, HN3.out.2, _, _, _, rfl⟩
                      have HS9 : Hid ((es ++ [((O3, N3), Value.slice o3 M3 c3)]).length = k + 1) := by show _ = _; rw [List.length_append, HSl.out]; rfl
                      clear hown9 hgrow hat hlt9 HYt HMt HEt hbs z4 HYg HMg HGo
                      go_wp2
                      go_roundg (gk - 1)
                      case measure => have := HK.out; omega
                      case rel => exact ⟨k + 1, _, _, _, by have := HK.out; omega, rfl, hid13 ⟨HS9.out, HBd9.out, HG9.out, HY9.out, HM9.out, HE9.out⟩⟩
                    · obtain ⟨A, ⟨⟨jo, jn⟩, ju⟩, hes⟩ : ∃ A e, es = A ++ [e] := ⟨es.dropLast, es.getLast (by rintro rfl; exact hk0 HSl.out.symm), (List.dropLast_concat_getLast _).symm⟩
                      have hAl : A.length + 1 = k := by rw [← HSl.out, hes]; simp
                      obtain ⟨ge, hoe⟩ : ∃ ge, oe = some ⟨ge, 0, none⟩ := by
                        rcases HE7.out.2 with ⟨h1, h2⟩ | ⟨g, cap, cur, h1, -⟩
                        · exact absurd h2 hk0
                        · injection h1 with h1; exact ⟨g, h1⟩
                      subst hoe
                      obtain ⟨kk, hkk⟩ : ∃ kk, kk = A.length := ⟨_, rfl⟩
                      have hgl : es[kk]? = some ((jo, jn), ju) := by rw [hes, hkk]; simp
                      obtain ⟨a1, a2, a3⟩ := rowE_get es kk _ hgl
                      have b1 := HE7.out.cells (g := ge) rfl (kk * 3) _ a1
                      have b2 := HE7.out.cells (g := ge) rfl (kk * 3 + 1) _ a2
                      have b3 := HE7.out.cells (g := ge) rfl (kk * 3 + 2) _ a3
                      rw [addA, Nat.zero_add] at b1 b2 b3
                      dsimp only at b1 b2 b3
                      rw [hes, last_fst18] at HEn
                      dsimp only at HEn
                      have hjb := HBd.out ((jo, jn), ju) (by rw [hes]; simp)
                      dsimp only at hjb
                      obtain ⟨hjb1, hjb2, uo, un, uc, rfl⟩ := hjb
                      have q8 := bl1 (w7.alloc (.cells #[.int .i64 O3, .int .i64 N3, .slice o3 M3 c3] 67)) (.cells #[.int .i64 jo, .int .i64 jn, .slice uo un uc] 67)
                      have HY8 := hid13 (HY7.out.below q8)
                      have HM8 := hid13 (own_b13 q8 HM7.out)
                      have HE8 := hid13 (own_b13 q8 HE7.out)
                      have i0' := keepc q8 i0
                      have i1' := keepc q8 i1
                      have i2' := keepc q8 i2
                      have hj8 := new_16 (w7.alloc (.cells #[.int .i64 O3, .int .i64 N3, .slice o3 M3 c3] 67)) (.cells #[.int .i64 jo, .int .i64 jn, .slice uo un uc] 67)
                      rw [World.size_alloc] at hj8
                      have j0 := at_16 hj8 0 _ rfl
                      have j1 := at_16 hj8 1 _ rfl
                      have j2 := at_16 hj8 2 _ rfl
                      have x4 := at_16 HY7.out.x 4 _ rfl
                      have mk1 : IntKind.i64.wrap ((k : Int) - 1) = (kk : Int) := by rw [IntKind.wrap_i64]; omega
                      have hkk2 : (kk : Int) < (k : Int) := by omega
                      have hkp : (0 : Int) < (k : Int) := by omega
                      have mJ : IntKind.i64.wrap (jn - 1) = jn - 1 := by rw [IntKind.wrap_i64]; omega
                      clear a1 a2 a3 hgl hkk hAl hes q8 hj8 hk0 hjb1 hjb2
                      obtain ⟨RB, hRB⟩ : ∃ RB : Bool, RB = decide (jo = O3 ∧ (O3 = 4 ∧ N3 = jn ∨ O3 = 3 ∧ N3 = jn - 1)) := ⟨_, rfl⟩
                      have HRB := hid13 hRB
                      clear hRB
                      go_upto_region 27 with fail
                      go_cut [149] from 85 to 160 (fun c wx => c = .bool RB ∧ Hid (wx = (w7.alloc (.cells #[.int .i64 O3, .int .i64 N3, .slice o3 M3 c3] 67)).alloc (.cells #[.int .i64 jo, .int .i64 jn, .slice uo un uc] 67)))
                      case first =>
                        clear HErr HGo0 HEn HY7 HM7 HE7 HY8 HM8 HE8 HBd HSl i0 i1 i2 j2 i2'
                        by_cases cc1 : jo = O3
                        · have ce : (jo == O3) = true := by simpa using cc1
                          by_cases cc2 : O3 = 4
                          · have cf : (O3 == 4) = true := by simpa using cc2
                            by_cases cc3 : N3 = jn
                            · have cn : (N3 == jn) = true := by simpa using cc3
                              have HR : Hid (RB = true) := hid13 (by rw [HRB.out]; exact decide_eq_true ⟨cc1, .inl ⟨cc2, cc3⟩⟩)
                              clear cc1 cc2 cc3 HRB
                              go_wp2
                              go_meet
                              exact ⟨by rw [HR.out], hid13 rfl⟩
                            · have cn : (N3 == jn) = false := by simpa using cc3
                              have ct : (O3 == 3) = false := by simp [cc2]
                              have HR : Hid (RB = false) := hid13 (by rw [HRB.out]; exact decide_eq_false (by rintro ⟨-, h | h⟩; exact cc3 h.2; omega))
                              clear cc1 cc2 cc3 HRB
                              go_wp2
                              go_meet
                              exact ⟨by rw [HR.out], hid13 rfl⟩
                          · have cf : (O3 == 4) = false := by simpa using cc2
                            by_cases cc4 : O3 = 3
                            · have ct : (O3 == 3) = true := by simpa using cc4
                              by_cases cc3 : N3 = jn - 1
                              · have cn : (N3 == jn - 1) = true := by simpa using cc3
                                have HR : Hid (RB = true) := hid13 (by rw [HRB.out]; exact decide_eq_true ⟨cc1, .inr ⟨cc4, cc3⟩⟩)
                                clear cc1 cc2 cc3 cc4 HRB
                                go_wp2
                                go_meet
                                exact ⟨by rw [HR.out], hid13 rfl⟩
                              · have cn : (N3 == jn - 1) = false := by simpa using cc3
                                have HR : Hid (RB = false) := hid13 (by rw [HRB.out]; exact decide_eq_false (by rintro ⟨-, h | h⟩; exact cc2 h.1; exact cc3 h.2))
                                clear cc1 cc2 cc3 cc4 HRB
                                go_wp2
                                go_meet
                                exact ⟨by rw [HR.out], hid13 rfl⟩
                            · have ct : (O3 == 3) = false := by simpa using cc4
                              have HR : Hid (RB = false) := hid13 (by rw [HRB.out]; exact decide_eq_false (by rintro ⟨-, h | h⟩; exact cc2 h.1; exact cc4 h.1))
                              clear cc1 cc2 cc4 HRB
                              go_wp2
                              go_meet
                              exact ⟨by rw [HR.out], hid13 rfl⟩
                        · have ce : (jo == O3) = false := by simpa using cc1
                          have HR : Hid (RB = false) := hid13 (by rw [HRB.out]; exact decide_eq_false (fun h => cc1 h.1))
                          clear cc1 HRB
                          go_wp2
                          go_meet
                          exact ⟨by rw [HR.out], hid13 rfl⟩
                      case rest =>
                        obtain ⟨rfl, hwc⟩ := hcut
                        replace hwc := hwc.out
                        subst hwc
                        cases RB with
                        | true =>
                          have HB := hid13 (HErr.out 25 (by rw [HEn.out, if_pos (of_decide_eq_true HRB.out.symm)]) (by decide))
                          clear HErr HGo0 HEn HRB
                          have r0 := at_16 HY8.out.r 0 _ rfl
                          have f0 := fr_16 (j := 0) HY8.out.r
                          have x0 := at_16 HY8.out.x 0 _ rfl
                          have r1 := at_16 HY8.out.r 1 _ rfl
                          have f1 := fr_16 (j := 1) HY8.out.r
                          have x1 := at_16 HY8.out.x 1 _ rfl
                          have r2 := at_16 HY8.out.r 2 _ rfl
                          have f2 := fr_16 (j := 2) HY8.out.r
                          have x2 := at_16 HY8.out.x 2 _ rfl
                          have r3 := at_16 HY8.out.r 3 _ rfl
                          have f3 := fr_16 (j := 3) HY8.out.r
                          have x3 := at_16 HY8.out.x 3 _ rfl
                          have r4 := at_16 HY8.out.r 4 _ rfl
                          have f4 := fr_16 (j := 4) HY8.out.r
                          have x4 := at_16 HY8.out.x 4 _ rfl
                          have HF := hid13 (((((HY8.out.b.setCell (p := ⟨w.heap.size, 0, none⟩) (Nat.le_refl _) (.int .i64 (a : Int))).setCell (p := ⟨w.heap.size, 1, none⟩) (Nat.le_refl _) (.int .i64 (N2))).setCell (p := ⟨w.heap.size, 2, none⟩) (Nat.le_refl _) (.slice o2 M.length c2)).setCell (p := ⟨w.heap.size, 3, none⟩) (Nat.le_refl _) (.int .i64 ((en : Int)))).setCell (p := ⟨w.heap.size, 4, none⟩) (Nat.le_refl _) (.slice (some ⟨ge, 0, none⟩) k ce))
                          go_wp2
                          refine bodyPost_ret (v := .tuple #[.agg #[.int .i64 (a : Int), .int .i64 (N2), .slice o2 M.length c2, .int .i64 ((en : Int)), .slice (some ⟨ge, 0, none⟩) k ce], .int .i64 (0), .int .i64 (25), .int .i64 ((en : Int) + (k : Int))]) (by simp [results, Try.results39, go_sem, *]) rfl (bkq_no HB.out (by decide) HF.out)
                        | false =>
                          have HGo := hid13 (HGo0.out (by rw [HEn.out, if_neg (of_decide_eq_false HRB.out.symm)]))
                          clear HErr HGo0 HEn HRB j0 j1 j2
                          have T0 := bl1 ((w7.alloc (.cells #[.int .i64 O3, .int .i64 N3, .slice o3 M3 c3] 67)).alloc (.cells #[.int .i64 jo, .int .i64 jn, .slice uo un uc] 67)) (.cells #[.int .i64 O3, .int .i64 N3, .slice o3 M3 c3] 67)
                          have HYt := hid13 (HY8.out.below T0)
                          have HMt := hid13 (own_b13 T0 HM8.out)
                          have HEt := hid13 (own_b13 T0 HE8.out)
                          have hbs : w.heap.size + 2 ≤ (((w7.alloc (.cells #[.int .i64 O3, .int .i64 N3, .slice o3 M3 c3] 67)).alloc (.cells #[.int .i64 jo, .int .i64 jn, .slice uo un uc] 67)).alloc (.cells #[.int .i64 O3, .int .i64 N3, .slice o3 M3 c3] 67)).heap.size := by have := lt_16 HYt.out.x; omega
                          have z4 := at_16 HY8.out.x 4 _ rfl
                          clear T0
                          go_wp2_with (at_builtin; apply stopHere9)
                          refine (show wpList _ _ _ _ _ _ from ?_)
                          refine wpList_append_lies _ rfl _ _ 70 rfl (w.heap.size + 2) 67 n0 (.agg #[.int .i64 0, .int .i64 0, .slice none 0 0]) 3 40 Try.underlying70 hn hn0 hn1 hn2 rfl (by decide) _ _ _ rfl HEt.out ⟨w7.heap.size + 1 + 1, 0, none⟩ 1 1 [.int .i64 O3, .int .i64 N3, .slice o3 M3 c3] rfl rfl (by have h9 := news_three18 ((w7.alloc (.cells #[.int .i64 O3, .int .i64 N3, .slice o3 M3 c3] 67)).alloc (.cells #[.int .i64 jo, .int .i64 jn, .slice uo un uc] 67)) (.int .i64 O3) (.int .i64 N3) (.slice o3 M3 c3) 67; rwa [World.size_alloc, World.size_alloc] at h9) (one_three18 _ _ _ _ _) (by decide) h63 h47 hbs _ rfl ?_
                          intro g9 cap9 w9 hown9 hgrow hat hlt9
                          have HYg := hid13 (HYt.out.grown (v := .slice none 0 0) hgrow (fun z hz => own_ge16 HEt.out hz))
                          have HMg := hid13 (own_other18 HMt.out HEt.out (by decide) hgrow)
                          have u4 := at_16 HYg.out.x 4 _ rfl
                          have fu4 := fr_16 (j := 4) HYg.out.x
                          have HY9 := hid13 (HYg.out.s4 (.slice (some ⟨g9, 0, none⟩) (k + 1) cap9))
                          have HM9 := hid13 (own_far16 HMg.out (B := w.heap.size + 1) (o := 4) (.slice (some ⟨g9, 0, none⟩) (k + 1) cap9) (fun e => by have := own_ge16 HMg.out e; omega))
                          have HE9 : Hid ((w9.setCell ⟨w.heap.size + 1, 4, none⟩ (.slice (some ⟨g9, 0, none⟩) (k + 1) cap9)).ownsRow (w.heap.size + 2) 67 3 (.slice (some ⟨g9, 0, none⟩) (k + 1) cap9) (k + 1) (rowE (es ++ [((O3, N3), .slice o3 M3 c3)]))) := hid13 (by
                            rw [rowE_app]
                            exact own_far16 hown9 _ (fun e => by have := own_ge16 hown9 e; omega))
                          have HG9 : Hid (enG l (en : Int) (gk - 1) (k + 1) ((es ++ [((O3, N3), Value.slice o3 M3 c3)]).map Prod.fst) = RES) := by show _ = _; rw [List.map_append]; exact HGo.out
                          have HBd9 : Hid (∀ e ∈ es ++ [((O3, N3), Value.slice o3 M3 c3)], 0 ≤ e.1.2 ∧ e.1.2 ≤ 16777215 ∧ ∃ ao n c, e.2 = Value.slice ao n c) := fun e he => by
                            rcases List.mem_append.mp he with h | h
                            · exact HBd.out e h
                            · simp at h; subst h; exact ⟨HN3.out.1, HN3.out.2, _, _, _, rfl⟩
                          have HS9 : Hid ((es ++ [((O3, N3), Value.slice o3 M3 c3)]).length = k + 1) := by show _ = _; rw [List.length_append, HSl.out]; rfl
                          clear hown9 hgrow hat hlt9 HYt HMt HEt hbs z4 HYg HMg HGo
                          go_wp2
                          go_roundg (gk - 1)
                          case measure => have := HK.out; omega
                          case rel => exact ⟨k + 1, _, _, _, by have := HK.out; omega, rfl, hid13 ⟨HS9.out, HBd9.out, HG9.out, HY9.out, HM9.out, HE9.out⟩⟩
                · have HB := hid13 (HErr.out E3 (by rw [HEn.out, if_pos hE3]) hE3)
                  have hE3' : (E3 != 0) = true := by simpa using hE3
                  have hE3'' : (E3 == 0) = false := by simpa using hE3
                  have HNe := hid13 hE3
                  clear hE3 HErr HGo0 HEn
                  have r0 := at_16 HY7.out.r 0 _ rfl
                  have f0 := fr_16 (j := 0) HY7.out.r
                  have x0 := at_16 HY7.out.x 0 _ rfl
                  have r1 := at_16 HY7.out.r 1 _ rfl
                  have f1 := fr_16 (j := 1) HY7.out.r
                  have x1 := at_16 HY7.out.x 1 _ rfl
                  have r2 := at_16 HY7.out.r 2 _ rfl
                  have f2 := fr_16 (j := 2) HY7.out.r
                  have x2 := at_16 HY7.out.x 2 _ rfl
                  have r3 := at_16 HY7.out.r 3 _ rfl
                  have f3 := fr_16 (j := 3) HY7.out.r
                  have x3 := at_16 HY7.out.x 3 _ rfl
                  have r4 := at_16 HY7.out.r 4 _ rfl
                  have f4 := fr_16 (j := 4) HY7.out.r
                  have x4 := at_16 HY7.out.x 4 _ rfl
                  have HF := hid13 (((((HY7.out.b.setCell (p := ⟨w.heap.size, 0, none⟩) (Nat.le_refl _) (.int .i64 (a : Int))).setCell (p := ⟨w.heap.size, 1, none⟩) (Nat.le_refl _) (.int .i64 (N2))).setCell (p := ⟨w.heap.size, 2, none⟩) (Nat.le_refl _) (.slice o2 M.length c2)).setCell (p := ⟨w.heap.size, 3, none⟩) (Nat.le_refl _) (.int .i64 ((en : Int)))).setCell (p := ⟨w.heap.size, 4, none⟩) (Nat.le_refl _) (.slice oe k ce))
                  go_wp2
                  refine bodyPost_ret (v := .tuple #[.agg #[.int .i64 (a : Int), .int .i64 (N2), .slice o2 M.length c2, .int .i64 ((en : Int)), .slice oe k ce], .int .i64 (0), .int .i64 (E3), .int .i64 ((en : Int) + (k : Int))]) (by simp [results, Try.results39, go_sem, *]) rfl (bkq_no HB.out HNe.out HF.out)
              · have hg0 : gk = 0 := by omega
                have hko : k = ON := by omega
                have hRe : RES = (es.map Prod.fst, 0, 0) := by rw [← HI.out.2.2.1, hg0]; rfl
                have HB : Hid (bkE l (a : Int) = (0, 0)) := by show _ = _; rw [HEE.out, hRe]
                have HYe := hid13 HI.out.2.2.2.1
                have HMe := hid13 HI.out.2.2.2.2.1
                have HEe : Hid (wr.ownsRow (w.heap.size + 2) 67 3 (.slice oe k ce) es.length (rowE es)) := by show World.ownsRow _ _ _ _ _ _ _; rw [HI.out.1]; exact HI.out.2.2.2.2.2
                have HRf := hid13 hRe
                have m5 : IntKind.i64.wrap (1 + Z2) = 1 + Z2 := by rw [IntKind.wrap_i64]; have := HZ2.out; have := HON.out; omega
                have m6 : IntKind.i64.wrap (1 + Z2 + (ON : Int)) = 1 + Z2 + (ON : Int) := by rw [IntKind.wrap_i64]; have := HZ2.out; have := HON.out; omega
                have HM2 : Hid ((dcI l ((a : Int) + 1)).m = M) := by show _ = _; rw [HId.out]
                have hb9 : Hid (∀ W', Below w.heap.size w W' → W' = W') := fun _ _ => rfl
                clear hk hg0 hRe HI HSl x3 hko
                have r0 := at_16 HYe.out.r 0 _ rfl
                have f0 := fr_16 (j := 0) HYe.out.r
                have x0 := at_16 HYe.out.x 0 _ rfl
                have r1 := at_16 HYe.out.r 1 _ rfl
                have f1 := fr_16 (j := 1) HYe.out.r
                have x1 := at_16 HYe.out.x 1 _ rfl
                have r2 := at_16 HYe.out.r 2 _ rfl
                have f2 := fr_16 (j := 2) HYe.out.r
                have x2 := at_16 HYe.out.x 2 _ rfl
                have r3 := at_16 HYe.out.r 3 _ rfl
                have f3 := fr_16 (j := 3) HYe.out.r
                have x3 := at_16 HYe.out.x 3 _ rfl
                have r4 := at_16 HYe.out.r 4 _ rfl
                have f4 := fr_16 (j := 4) HYe.out.r
                have x4 := at_16 HYe.out.x 4 _ rfl
                have HF := hid13 (((((HYe.out.b.setCell (p := ⟨w.heap.size, 0, none⟩) (Nat.le_refl _) (.int .i64 (a : Int))).setCell (p := ⟨w.heap.size, 1, none⟩) (Nat.le_refl _) (.int .i64 (N2))).setCell (p := ⟨w.heap.size, 2, none⟩) (Nat.le_refl _) (.slice o2 M.length c2)).setCell (p := ⟨w.heap.size, 3, none⟩) (Nat.le_refl _) (.int .i64 ((en : Int)))).setCell (p := ⟨w.heap.size, 4, none⟩) (Nat.le_refl _) (.slice oe k ce))
                go_wp2
                refine bodyPost_ret (v := .tuple #[.agg #[.int .i64 (a : Int), .int .i64 (N2), .slice o2 M.length c2, .int .i64 ((en : Int)), .slice oe k ce], .int .i64 (1 + Z2 + (ON : Int)), .int .i64 (0), .int .i64 (0)]) (by simp [results, Try.results39, go_sem, *]) rfl (bkq_ok HB.out HN1.out (by rw [HZd.out]; exact HEZ.out.symm) HM2.out (by rw [HZd.out, ← HONe.out]) HMe.out HEe.out (by rw [← HONe.out, HRs0.out, HRf.out]) (fun e he => (HBd.out e he).2.2) HF.out)
          · have HB : Hid (bkE l (a : Int) = (25, (a : Int) + 1)) := by show _ = _; rw [HEE.out, if_pos hN]
            have hn : (N2 != N1) = true := by simpa using hN
            subst hO2
            clear HEE hN hId hEd hZd
            have r0 := at_16 HY5.out.r 0 _ rfl
            have f0 := fr_16 (j := 0) HY5.out.r
            have x0 := at_16 HY5.out.x 0 _ rfl
            have r1 := at_16 HY5.out.r 1 _ rfl
            have f1 := fr_16 (j := 1) HY5.out.r
            have x1 := at_16 HY5.out.x 1 _ rfl
            have r2 := at_16 HY5.out.r 2 _ rfl
            have f2 := fr_16 (j := 2) HY5.out.r
            have x2 := at_16 HY5.out.x 2 _ rfl
            have r3 := at_16 HY5.out.r 3 _ rfl
            have f3 := fr_16 (j := 3) HY5.out.r
            have x3 := at_16 HY5.out.x 3 _ rfl
            have r4 := at_16 HY5.out.r 4 _ rfl
            have f4 := fr_16 (j := 4) HY5.out.r
            have x4 := at_16 HY5.out.x 4 _ rfl
            have HF := hid13 (((((HY5.out.b.setCell (p := ⟨w.heap.size, 0, none⟩) (Nat.le_refl _) (.int .i64 (a : Int))).setCell (p := ⟨w.heap.size, 1, none⟩) (Nat.le_refl _) (.int .i64 (N1))).setCell (p := ⟨w.heap.size, 2, none⟩) (Nat.le_refl _) (.slice none 0 0)).setCell (p := ⟨w.heap.size, 3, none⟩) (Nat.le_refl _) (.int .i64 (0))).setCell (p := ⟨w.heap.size, 4, none⟩) (Nat.le_refl _) (.slice none 0 0))
            go_wp2
            refine bodyPost_ret (v := .tuple #[.agg #[.int .i64 (a : Int), .int .i64 (N1), .slice none 0 0, .int .i64 (0), .slice none 0 0], .int .i64 (0), .int .i64 (25), .int .i64 ((a : Int) + 1)]) (by simp [results, Try.results39, go_sem, *]) rfl (bkq_no HB.out (by decide) HF.out)
        · have HB : Hid (bkE l (a : Int) = (24, (a : Int) + 1)) := by show _ = _; rw [HEE.out, if_pos hO2]
          have hn : (O2 != 2) = true := by simpa using hO2
          clear HEE hO2 hId hEd hZd
          have r0 := at_16 HY5.out.r 0 _ rfl
          have f0 := fr_16 (j := 0) HY5.out.r
          have x0 := at_16 HY5.out.x 0 _ rfl
          have r1 := at_16 HY5.out.r 1 _ rfl
          have f1 := fr_16 (j := 1) HY5.out.r
          have x1 := at_16 HY5.out.x 1 _ rfl
          have r2 := at_16 HY5.out.r 2 _ rfl
          have f2 := fr_16 (j := 2) HY5.out.r
          have x2 := at_16 HY5.out.x 2 _ rfl
          have r3 := at_16 HY5.out.r 3 _ rfl
          have f3 := fr_16 (j := 3) HY5.out.r
          have x3 := at_16 HY5.out.x 3 _ rfl
          have r4 := at_16 HY5.out.r 4 _ rfl
          have f4 := fr_16 (j := 4) HY5.out.r
          have x4 := at_16 HY5.out.x 4 _ rfl
          have HF := hid13 (((((HY5.out.b.setCell (p := ⟨w.heap.size, 0, none⟩) (Nat.le_refl _) (.int .i64 (a : Int))).setCell (p := ⟨w.heap.size, 1, none⟩) (Nat.le_refl _) (.int .i64 (N1))).setCell (p := ⟨w.heap.size, 2, none⟩) (Nat.le_refl _) (.slice none 0 0)).setCell (p := ⟨w.heap.size, 3, none⟩) (Nat.le_refl _) (.int .i64 (0))).setCell (p := ⟨w.heap.size, 4, none⟩) (Nat.le_refl _) (.slice none 0 0))
          go_wp2
          refine bodyPost_ret (v := .tuple #[.agg #[.int .i64 (a : Int), .int .i64 (N1), .slice none 0 0, .int .i64 (0), .slice none 0 0], .int .i64 (0), .int .i64 (24), .int .i64 ((a : Int) + 1)]) (by simp [results, Try.results39, go_sem, *]) rfl (bkq_no HB.out (by decide) HF.out)
      · have HB : Hid (bkE l (a : Int) = (E2, (a : Int) + 1)) := by show _ = _; rw [HEE.out, if_pos hE2]
        have hE2' : (E2 != 0) = true := by simpa using hE2
        have hE2'' : (E2 == 0) = false := by simpa using hE2
        have HNe := hid13 hE2
        clear hE2 HEE hId hEd hZd
        have r0 := at_16 HY5.out.r 0 _ rfl
        have f0 := fr_16 (j := 0) HY5.out.r
        have x0 := at_16 HY5.out.x 0 _ rfl
        have r1 := at_16 HY5.out.r 1 _ rfl
        have f1 := fr_16 (j := 1) HY5.out.r
        have x1 := at_16 HY5.out.x 1 _ rfl
        have r2 := at_16 HY5.out.r 2 _ rfl
        have f2 := fr_16 (j := 2) HY5.out.r
        have x2 := at_16 HY5.out.x 2 _ rfl
        have r3 := at_16 HY5.out.r 3 _ rfl
        have f3 := fr_16 (j := 3) HY5.out.r
        have x3 := at_16 HY5.out.x 3 _ rfl
        have r4 := at_16 HY5.out.r 4 _ rfl
        have f4 := fr_16 (j := 4) HY5.out.r
        have x4 := at_16 HY5.out.x 4 _ rfl
        have HF := hid13 (((((HY5.out.b.setCell (p := ⟨w.heap.size, 0, none⟩) (Nat.le_refl _) (.int .i64 (a : Int))).setCell (p := ⟨w.heap.size, 1, none⟩) (Nat.le_refl _) (.int .i64 (N1))).setCell (p := ⟨w.heap.size, 2, none⟩) (Nat.le_refl _) (.slice none 0 0)).setCell (p := ⟨w.heap.size, 3, none⟩) (Nat.le_refl _) (.int .i64 (0))).setCell (p := ⟨w.heap.size, 4, none⟩) (Nat.le_refl _) (.slice none 0 0))
        go_wp2
        refine bodyPost_ret (v := .tuple #[.agg #[.int .i64 (a : Int), .int .i64 (N1), .slice none 0 0, .int .i64 (0), .slice none 0 0], .int .i64 (0), .int .i64 (E2), .int .i64 ((a : Int) + 1)]) (by simp [results, Try.results39, go_sem, *]) rfl (bkq_no HB.out HNe.out HF.out)
    · have HB := hid13 (HE2.out hE1 hO1)
      have hO1' : ((dcI l (a : Int)).op != 1) = true := by simpa using hO1
      rw [hE1]
      generalize (dcI l (a : Int)).op = O1 at *
      generalize (dcI l (a : Int)).n = N1 at *
      generalize dcZ l (a : Int) = Z1 at *
      clear hO1 hE1 HE1 HE2 HE3
      have r0 := at_16 HY2.out.r 0 _ rfl
      have f0 := fr_16 (j := 0) HY2.out.r
      have x0 := at_16 HY2.out.x 0 _ rfl
      have r1 := at_16 HY2.out.r 1 _ rfl
      have f1 := fr_16 (j := 1) HY2.out.r
      have x1 := at_16 HY2.out.x 1 _ rfl
      have r2 := at_16 HY2.out.r 2 _ rfl
      have f2 := fr_16 (j := 2) HY2.out.r
      have x2 := at_16 HY2.out.x 2 _ rfl
      have r3 := at_16 HY2.out.r 3 _ rfl
      have f3 := fr_16 (j := 3) HY2.out.r
      have x3 := at_16 HY2.out.x 3 _ rfl
      have r4 := at_16 HY2.out.r 4 _ rfl
      have f4 := fr_16 (j := 4) HY2.out.r
      have x4 := at_16 HY2.out.x 4 _ rfl
      have HF := hid13 (((((HY2.out.b.setCell (p := ⟨w.heap.size, 0, none⟩) (Nat.le_refl _) (.int .i64 (a : Int))).setCell (p := ⟨w.heap.size, 1, none⟩) (Nat.le_refl _) (.int .i64 (0))).setCell (p := ⟨w.heap.size, 2, none⟩) (Nat.le_refl _) (.slice none 0 0)).setCell (p := ⟨w.heap.size, 3, none⟩) (Nat.le_refl _) (.int .i64 (0))).setCell (p := ⟨w.heap.size, 4, none⟩) (Nat.le_refl _) (.slice none 0 0))
      go_wp2
      refine bodyPost_ret (v := .tuple #[.agg #[.int .i64 (a : Int), .int .i64 (0), .slice none 0 0, .int .i64 (0), .slice none 0 0], .int .i64 (0), .int .i64 (24), .int .i64 ((a : Int))]) (by simp [results, Try.results39, go_sem, *]) rfl (bkq_no HB.out (by decide) HF.out)
  · have HB := hid13 (HE1.out hE1)
    have hE1' : (dcE l (a : Int) != 0) = true := by simpa using hE1
    have hE1'' : (dcE l (a : Int) == 0) = false := by simpa using hE1
    have HNe := hid13 hE1
    generalize (dcI l (a : Int)).op = O1 at *
    generalize (dcI l (a : Int)).n = N1 at *
    generalize dcZ l (a : Int) = Z1 at *
    generalize dcE l (a : Int) = E1 at *
    clear hE1 HE1 HE2 HE3
    have r0 := at_16 HY2.out.r 0 _ rfl
    have f0 := fr_16 (j := 0) HY2.out.r
    have x0 := at_16 HY2.out.x 0 _ rfl
    have r1 := at_16 HY2.out.r 1 _ rfl
    have f1 := fr_16 (j := 1) HY2.out.r
    have x1 := at_16 HY2.out.x 1 _ rfl
    have r2 := at_16 HY2.out.r 2 _ rfl
    have f2 := fr_16 (j := 2) HY2.out.r
    have x2 := at_16 HY2.out.x 2 _ rfl
    have r3 := at_16 HY2.out.r 3 _ rfl
    have f3 := fr_16 (j := 3) HY2.out.r
    have x3 := at_16 HY2.out.x 3 _ rfl
    have r4 := at_16 HY2.out.r 4 _ rfl
    have f4 := fr_16 (j := 4) HY2.out.r
    have x4 := at_16 HY2.out.x 4 _ rfl
    have HF := hid13 (((((HY2.out.b.setCell (p := ⟨w.heap.size, 0, none⟩) (Nat.le_refl _) (.int .i64 (a : Int))).setCell (p := ⟨w.heap.size, 1, none⟩) (Nat.le_refl _) (.int .i64 (0))).setCell (p := ⟨w.heap.size, 2, none⟩) (Nat.le_refl _) (.slice none 0 0)).setCell (p := ⟨w.heap.size, 3, none⟩) (Nat.le_refl _) (.int .i64 (0))).setCell (p := ⟨w.heap.size, 4, none⟩) (Nat.le_refl _) (.slice none 0 0))
    go_wp2
    refine bodyPost_ret (v := .tuple #[.agg #[.int .i64 (a : Int), .int .i64 (0), .slice none 0 0, .int .i64 (0), .slice none 0 0], .int .i64 (0), .int .i64 (E1), .int .i64 ((a : Int))]) (by simp [results, Try.results39, go_sem, *]) rfl (bkq_no HB.out HNe.out HF.out)
end Go.Proofs.Ytdpmhpmnkollaaa
