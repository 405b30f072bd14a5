/-
  Part 15 of the proof: 1 texts, one behind the other.
-/
import Derived.Test.YtdpfdlkaickkiaaPart7
namespace Go.Proofs.Ytdpfdlkaickkiaa
open Go.RowKit Go.Shelf
set_option linter.unusedSimpArgs false
set_option linter.unusedVariables false
attribute [local go_sem] Oper.semAt_some

abbrev Nv := Int × (Option Addr × Nat × Nat)
def RwV (w : World) (v : Value) (l : List Nv) : Prop := ∃ ao c, v = .slice ao l.length c ∧ l.length ≤ c ∧ (l = [] ∨ ∃ b off, ao = some ⟨b, off, none⟩ ∧ ∀ j x, l[j]? = some x → w.cell? ⟨b, off + j * 2, none⟩ = some (.int .i64 x.1) ∧ w.cell? ⟨b, off + j * 2 + 1, none⟩ = some (.slice x.2.1 x.2.2.1 x.2.2.2))
theorem RwV.below {w w' : World} {v : Value} {l : List Nv} (h : RwV w v l) (hb : Below w.heap.size w w') : RwV w' v l := by
  obtain ⟨ao, c, e, hc, h⟩ := h
  refine ⟨ao, c, e, hc, h.imp id ?_⟩
  rintro ⟨b, off, e, h⟩
  exact ⟨b, off, e, fun j x hj => ⟨keepc hb (h j x hj).1, keepc hb (h j x hj).2⟩⟩
theorem rwd_nv {w : World} {v : Value} {L : List Nde} (h : RwD w v L) : ∃ l : List Nv, l.length = L.length ∧ RwV w v l ∧ ∀ (j : Nat) (d : Nde), L[j]? = some d → ∃ x : Nv, l[j]? = some x ∧ x.1 = d.b ∧ x.2.2.1 = d.r.length ∧ RwN w (.slice x.2.1 x.2.2.1 x.2.2.2) d.r := by
  obtain ⟨ao, c, e, hc, h⟩ := h
  rcases h with rfl | ⟨b, off, e2, h⟩
  · exact ⟨[], rfl, ⟨ao, c, e, hc, .inl rfl⟩, fun j d hj => by simp at hj⟩
  · have H : ∀ (i : Fin L.length), ∃ x : Option Addr × Nat × Nat, w.cell? ⟨b, off + i.1 * 2, none⟩ = some (.int .i64 L[i.1].b) ∧ w.cell? ⟨b, off + i.1 * 2 + 1, none⟩ = some (.slice x.1 x.2.1 x.2.2) ∧ x.2.1 = L[i.1].r.length ∧ RwN w (.slice x.1 x.2.1 x.2.2) L[i.1].r := fun i => by
      obtain ⟨vr, h1, h2, h3⟩ := h i.1 L[i.1] (List.getElem?_eq_getElem i.2)
      obtain ⟨a, c2, e3, h4⟩ := id h3
      subst e3
      exact ⟨(a, L[i.1].r.length, c2), h1, h2, rfl, h3⟩
    refine ⟨List.ofFn (fun i : Fin L.length => (L[i.1].b, Classical.choose (H i))), by simp, ⟨ao, c, by simpa using e, by simpa using hc, .inr ⟨b, off, e2, fun j x hj => ?_⟩⟩, fun j d hj => ?_⟩
    · obtain ⟨h1, h2⟩ := List.getElem?_eq_some_iff.mp hj
      rw [List.getElem_ofFn] at h2
      have hj2 : j < L.length := by simpa using h1
      have h3 := Classical.choose_spec (H ⟨j, hj2⟩)
      rw [← h2]
      exact ⟨h3.1, h3.2.1⟩
    · obtain ⟨h1, h2⟩ := List.getElem?_eq_some_iff.mp hj
      have h3 := Classical.choose_spec (H ⟨j, h1⟩)
      refine ⟨_, by rw [List.getElem?_eq_getElem (by simpa using h1), List.getElem_ofFn], by rw [← h2], by rw [← h2]; exact h3.2.2.1, ?_⟩
      rw [← h2]
      exact h3.2.2.2
def plcN (l : List Nv) : List (Int × Nv) := l.mapIdx fun i r => ((i : Int), r)
theorem plcN_len (l : List Nv) : (plcN l).length = l.length := by unfold plcN; simp
theorem plcN_at (l : List Nv) (j : Nat) (r : Nv) (h : l[j]? = some r) : (plcN l)[j]? = some ((j : Int), r) := by unfold plcN; rw [List.getElem?_mapIdx, h]; rfl
theorem plcN_step (l : List Nv) (j : Nat) (r : Nv) (h : l[j]? = some r) : ((plcN l).drop (j + 1)).reverse ++ [((j : Int), r)] = ((plcN l).drop j).reverse := by
  have hj := plcN_at l j r h
  obtain ⟨hlt, he⟩ := List.getElem?_eq_some_iff.mp hj
  conv => rhs; rw [List.drop_eq_getElem_cons hlt]
  rw [List.reverse_cons, he]
def encN (x : Int × Nv) : Array Value := #[.int .i64 x.1, .agg #[.int .i64 x.2.1, .slice x.2.2.1 x.2.2.2.1 x.2.2.2.2]]
structure BwN (Z : Nat → Prop) (A : Nat) (ao : Option Addr) (c : Nat) (l : List Nv) (W : World) : Prop where
  a : W.cell? ⟨A, 0, none⟩ = some (.slice ao l.length c)
  za : Z A
  r : RwV W (.slice ao l.length c) l
  zr : l ≠ [] → ∀ ad, ao = some ad → Z ad.block
theorem BwN.kz {Z : Nat → Prop} {A : Nat} {ao : Option Addr} {c : Nat} {l : List Nv} {W W' : World} (h : BwN Z A ao c l W) (g : KZ Z W W') : BwN Z A ao c l W' := by
  refine ⟨kz_cell g h.za h.a, h.za, ?_, h.zr⟩
  obtain ⟨ao', c', e, hc, hr⟩ := h.r
  injection e with e1 e2 e3
  subst e1 e3
  refine ⟨ao, c, rfl, hc, ?_⟩
  rcases hr with hr | ⟨b, off, e, hr⟩
  · exact .inl hr
  · exact .inr ⟨b, off, e, fun j x hj => ⟨kz_cell g (h.zr (by rintro rfl; cases hj) _ e) (hr j x hj).1, kz_cell g (h.zr (by rintro rfl; cases hj) _ e) (hr j x hj).2⟩⟩
theorem backN_any (ao : Option Addr) (n c : Nat) (w : World) :
    Calls Try.prog 47 #[.slice ao n c] w fun e w' => e = .returned (.func (.func 71) #[] #[.pointer (some ⟨w.heap.size, 0, none⟩)]) ∧ w' = w.alloc (.cells #[.slice ao n c] 22) := by
  have hmf : ∀ (fn : Fn) (first cap : Array Value) (w : World), (Instr.makeFunc fn first cap).run Try.prog w = .ok (.func fn first cap) w := fun _ _ _ _ => rfl
  go_enter Try.func47, Try.ntmps47
  go_wp2
  go_ret
  exact ⟨rfl, rfl⟩
set_option maxRecDepth 20000 in
set_option maxHeartbeats 16000000 in
theorem backN1_any (n : Nat) (Z : Nat → Prop) (A : Nat) (ao : Option Addr) (c : Nat) (l : List Nv) (hl : l.length ≤ 1000000000) (Bd : Nat) (w : World) (hM : BwN Z A ao c l w) :
    SeqX n Try.prog 71 #[.pointer (some ⟨A, 0, none⟩)] encN (KZ Z) (fun ys => ys = (plcN l).reverse) (fun pre => pre <+: (plcN l).reverse) Bd w := by
  intro L J Jx W hW hB hJ hJx hY h0
  have HM := hid13 (hM.kz (kz_below hW))
  have HJ := hid13 hJ
  have HY := hid13 hY
  have H0 := hid13 h0
  have hmi : (l.length : Int) ≤ 1000000000 := by omega
  have HL : Hid (l.length ≤ 1000000000) := hl
  have a0 := HM.out.a
  have w0 : IntKind.i64.wrap ((l.length : Int) - 1) = (l.length : Int) - 1 := by rw [IntKind.wrap_i64]; omega
  clear hJ hJx hY h0 hM
  refine callsIn_of_wp Try.func71 rfl trivial ?_ rfl
  simp only [Try.ntmps71, List.size_toArray, List.length_cons, List.length_nil, Nat.reduceAdd, Nat.reduceSub, Array.replicate_succ, Array.replicate_zero, List.push_toArray, List.append_toArray, List.nil_append, List.cons_append]
  gi_wp2
  gi_loopw [3] (fun x3 wr => ∃ (j : Nat), j ≤ l.length ∧ x3 = .int .i64 ((j : Int) - 1) ∧ Hid (J ((plcN l).drop j).reverse wr) ∧ Hid (BwN Z A ao c l wr)) (fun x3 wr => (intOf13 x3 + 1).toNat)
  case atStart => exact ⟨l.length, Nat.le_refl _, rfl, hid13 (by rw [← plcN_len l, List.drop_length]; exact H0.out), HM⟩
  case round =>
    clear H0 HM a0 w0
    obtain ⟨j, hj, rfl, HJw, HMw⟩ := hrel
    cases j with
    | zero =>
      have HE : Hid (J (plcN l).reverse wr) := by have := HJw.out; rw [List.drop_zero] at this; exact this
      have h9 : ¬ (0 : Int) ≤ ((0 : Nat) : Int) - 1 := by omega
      clear HJw HMw
      gi_wp2
      go_end0
      first | exact ⟨⟨_, rfl⟩, .inl ⟨_, rfl, HE.out⟩⟩ | exact ⟨⟨_, rfl⟩, .inl HE.out⟩
    | succ j =>
      have hlt : j < l.length := by omega
      have hli : (j : Int) < (l.length : Int) := by omega
      have e1 : ((j + 1 : Nat) : Int) - 1 = (j : Int) := by omega
      rw [e1]
      obtain ⟨r, hr⟩ : ∃ r, l[j]? = some r := ⟨l[j], by simp [hlt]⟩
      obtain ⟨bb, off, hao, hcell⟩ : ∃ b off, ao = some ⟨b, off, none⟩ ∧ ∀ j r, l[j]? = some r → wr.cell? ⟨b, off + j * 2, none⟩ = some (.int .i64 r.1) ∧ wr.cell? ⟨b, off + j * 2 + 1, none⟩ = some (.slice r.2.1 r.2.2.1 r.2.2.2) := by
        obtain ⟨ao', c', e, hc, hr⟩ := HMw.out.r
        injection e with e1 e2 e3
        subst e1
        rcases hr with h | h
        · rw [h] at hlt; simp at hlt
        · exact h
      subst hao
      obtain ⟨r0, r1⟩ := hcell j r hr
      have a0 := HMw.out.a
      have HT := hid13 (plcN_step l j r hr)
      have HPx : Hid (((plcN l).drop (j + 1)).reverse ++ [((j : Int), r)] <+: (plcN l).reverse) := hid13 (by
        rw [plcN_step l j r hr]
        refine ⟨((plcN l).take j).reverse, ?_⟩
        rw [← List.reverse_append, List.take_append_drop])
      obtain ⟨fn, tmps, assign, body, hy, hR⟩ := HY.out _ _ wr HJw.out HPx.out
      dsimp only [encN] at hy
      have HK : Hid (j < l.length ∧ l.length ≤ 1000000000) := ⟨hlt, hl⟩
      have mj : IntKind.i64.wrap ((j : Int) - 1) = (j : Int) - 1 := by rw [IntKind.wrap_i64]; omega
      clear hr hcell e1
      gi_wp2
      refine ⟨fun q => (by cases q), hR.mono ?_⟩
      rintro e W4 (⟨rfl, hJ4, hk4⟩ | ⟨rfl, hx4, -⟩)
      · rw [HT.out] at hJ4
        have HM4 := hid13 (HMw.out.kz hk4)
        have HJ4 := hid13 hJ4
        clear hJ4 hk4 hy hR HMw HJw r0 r1 a0
        gi_wp2
        go_roundw
        case rel => exact ⟨j, by have := HK.out; omega, rfl, HJ4, HM4⟩
        case measure =>
          have := HK.out
          first | (simp [intOf13]; done) | (simp [intOf13]; omega) | (unfold intOf13; simp; omega)
      · have HX4 := hid13 hx4
        clear hx4 hy hR HMw HJw r0 r1 a0
        gi_wp2
        exact bodyPost_ret (v := .tuple #[]) (by simp [results, Try.results71]) rfl ⟨⟨_, rfl⟩, .inr ⟨_, HPx.out, HX4.out⟩⟩
end Go.Proofs.Ytdpfdlkaickkiaa
