/-
  Part 9 of the proof: 3 texts, one behind the other.
-/
import Derived.Test.YtiachojhnbicaaaDoorPart3
import Derived.Test.YtiachojhnbicaaaDoorPart7
import Derived.Test.YtiachojhnbicaaaDoorPart2
import Derived.WalkLawsBesides
import Derived.Test.YtiachojhnbicaaaDoorPart6
namespace Go.Proofs.YtiachojhnbicaaaDoor
open Go.RowKit
set_option linter.unusedSimpArgs false
set_option linter.unusedVariables false

section
variable {P : Program}
theorem gh_anyP21 {γ : Type} (PQ : List PanicEntry → World → Prop) {l : List Oper} (ok : QpOk l l.length l.length) (hgd : ∀ o ∈ l, o.guard = none) (hdst : ∀ (i k : Nat) (oi ok : Oper) (s : Nat), l[i]? = some oi → l[k]? = some ok → oi.dst = some s → ok.dst = some s → i = k) {Q : Exit → Act → World → Prop} {a : Act} (A : γ → Act) (hsz : ∀ g, (A g).tmps.size = a.tmps.size) (hdf : ∀ g, (A g).defers = a.defers) (hA : ∀ g s, (∀ o ∈ l, o.dst ≠ some s) → (A g).tmps[s]? = a.tmps[s]?) (R : Array Bool → γ → World → Prop)
    (hstep : ∀ (i : Nat) (o : Oper) (lp : Array Bool) (g : γ) (w' : World) (a' : Act), l[i]? = some o → lp.size = l.length → lp.getD i false = false → (∀ e ∈ o.after, Region.binds .any e = true → lp.getD e.on false = true) → R lp g w' → Slt l a (A g) lp a' →
      ∀ (K : Act → World → Prop) (Q' : Exit → Act → World → Prop), (∀ ch a'' w'', a''.defers = a.defers → PQ ch w'' → Q' (.panic ch) a'' w'') → (∀ g' w'', (∀ (k : Nat) (o : Oper) (s : Nat), l[k]? = some o → lp.getD k false = true → o.dst = some s → (A g').tmps[s]? = (A g).tmps[s]?) → R (lp.setIfInBounds i true) g' w'' → ∀ v, valO (A g') o = v → K (a'.put o.dst v) w'') → o.wp P a' w' K Q')
    (hPQ : ∀ ch a'' w'', a''.defers = a.defers → PQ ch w'' → Q (.panic ch) a'' w'') (hpost : ∀ g w', R (Array.replicate l.length true) g w' → Q .normal (A g) w') :
    ∀ (fuel : Nat) (lp : Array Bool) (g : γ) (a' : Act) (w : World), lp.size = l.length → unl lp = fuel → R lp g w → Slt l a (A g) lp a' → wpAny P .any l.toArray Q fuel lp a' w := by
  intro fuel
  have fin : ∀ (lp : Array Bool) (g : γ) (a' : Act) (w : World), lp.size = l.length → unl lp = 0 → R lp g w → Slt l a (A g) lp a' → Q .normal a' w := by
    intro lp g a' w hs hu hR hS
    have e : lp = Array.replicate l.length true := by have := unl_zero lp hu; rwa [hs] at this
    rw [e] at hR hS
    have : a' = A g := by
      have ht : a'.tmps = (A g).tmps := by
        apply Array.ext_getElem?
        intro s
        by_cases h : ∃ (k : Nat) (o : Oper), l[k]? = some o ∧ o.dst = some s
        · obtain ⟨k, o, h1, h2⟩ := h
          have hk : k < l.length := (List.getElem?_eq_some_iff.mp h1).1
          exact hS.don k o s h1 (by simp [Array.getElem?_replicate, hk]) h2
        · have h' : ∀ o ∈ l, o.dst ≠ some s := by
            intro o ho e
            obtain ⟨k, hk, rfl⟩ := List.mem_iff_getElem.mp ho
            exact h ⟨k, l[k], List.getElem?_eq_getElem hk, e⟩
          rw [hA g s h']
          exact hS.oth s (fun k o h1 _ e => h ⟨k, o, h1, e⟩)
      have hd : a'.defers = (A g).defers := by rw [hS.dfr, hdf]
      cases a'
      cases hAg : A g
      rw [hAg] at ht hd
      simp only at ht hd
      rw [ht, hd]
    rw [this]
    exact hpost g w hR
  induction fuel with
  | zero =>
    intro lp g a' w hs hu hR hS
    refine ⟨?_, fin lp g a' w hs hu hR hS⟩
    have e : lp = Array.replicate l.length true := by have := unl_zero lp hu; rwa [hs] at this
    apply List.eq_nil_iff_forall_not_mem.mpr
    intro i hi
    obtain ⟨hun, o, ho, _⟩ := mem_ready.1 hi
    have hk : i < l.length := by
      have := (Array.getElem?_eq_some_iff.mp ho).1
      simpa using this
    rw [e] at hun
    simp [Array.getElem?_replicate, hk] at hun
  | succ fuel ih =>
    intro lp g a' w hs hu hR hS
    refine ⟨fun e => ?_, fun i hi => ?_⟩
    · obtain ⟨k, hk, hf⟩ := unl_some lp fuel hu
      have hne := some_ready ok lp hs k (by omega) hf
      rw [Nat.sub_self] at hne
      exact absurd (by simpa using e) hne
    · obtain ⟨hun, o, ho, hrd⟩ := mem_ready.1 hi
      have ho' : l[i]? = some o := by simpa using ho
      have hil : i < l.length := (List.getElem?_eq_some_iff.mp ho').1
      have hun' : lp.getD i false = false := by
        rw [Array.getD_eq_getD_getElem?] at hun ⊢
        cases q : lp[i]? with
        | none => rfl
        | some b => rw [q] at hun; simpa using hun
      unfold wpOp
      simp only [ho]
      rw [if_pos (by simp [Region.wanted, hgd o (List.mem_of_getElem? ho')])]
      left
      refine hstep i o lp g w a' ho' hs hun' (fun e he hb => hrd e he hb) hR hS _ _ hPQ ?_
      intro g' w'' hsame hR' v hv
      subst hv
      refine ih _ g' _ w'' (by simp [hs]) (by have := unl_set lp i hun; omega) hR' ⟨?_, ?_, ?_, ?_⟩
      · intro k ok s hk hl hd
        rcases getD_set hl with rfl | hl'
        · have : ok = o := by rw [ho'] at hk; cases hk; rfl
          subst this
          unfold Act.put valO
          rw [hd]
          simp only [Option.bind_some]
          by_cases hlt : s < a'.tmps.size
          · rw [Array.getElem?_setIfInBounds_self_of_lt hlt]
            have h2 : s < (A g').tmps.size := by rw [hsz, ← hS.siz]; exact hlt
            rw [Array.getElem?_eq_getElem h2]
            rfl
          · rw [Array.getElem?_eq_none (by simp; omega), Array.getElem?_eq_none (by rw [hsz, ← hS.siz]; omega)]
        · rw [put_other a' o.dst _ s (fun e => by
            have := hdst k i ok o s hk ho' hd e
            subst this
            rw [hun'] at hl'
            cases hl'), hS.don k ok s hk hl' hd, hsame k ok s hk hl' hd]
      · intro s h
        have hne : o.dst ≠ some s := h i o ho' (getD_set_same (by omega))
        rw [put_other a' o.dst _ s hne]
        exact hS.oth s (fun k ok hk hl => h k ok hk (by
          by_cases e : k = i
          · subst e; exact getD_set_same (by omega)
          · rw [Array.getD_eq_getD_getElem?] at hl ⊢
            rwa [Array.getElem?_setIfInBounds_ne (by omega)]))
      · rw [put_size, hS.siz]
      · unfold Act.put
        cases o.dst <;> exact hS.dfr
theorem gh_regionP21 {γ : Type} (PQ : List PanicEntry → World → Prop) {id : Nat} {l : List Oper} (ok : QpOk l l.length l.length) (hgd : (l.all fun o => o.guard.isNone) = true) (hdst : dstG l = true) {Q : Exit → Act → World → Prop} {a : Act} {w : World} (ds : List (Option Tmp)) (vals : γ → List Value) (hm : P.follows .mixedOrders = true) (hds : ∀ d ∈ ds, ∃ o ∈ l, o.dst = d) (R : Array Bool → γ → World → Prop) (g0 : γ) (h0 : R (Array.replicate l.length false) g0 w.drew)
    (hstep : ∀ (i : Nat) (o : Oper) (lp : Array Bool) (g : γ) (w' : World) (a' : Act), l[i]? = some o → lp.size = l.length → lp.getD i false = false → (∀ e ∈ o.after, Region.binds .any e = true → lp.getD e.on false = true) → R lp g w' → Slt l a (putAll a ds (vals g)) lp a' →
      ∀ (K : Act → World → Prop) (Q' : Exit → Act → World → Prop), (∀ ch a'' w'', a''.defers = a.defers → PQ ch w'' → Q' (.panic ch) a'' w'') → (∀ g' w'', (∀ (k : Nat) (o : Oper) (s : Nat), l[k]? = some o → lp.getD k false = true → o.dst = some s → (putAll a ds (vals g')).tmps[s]? = (putAll a ds (vals g)).tmps[s]?) → R (lp.setIfInBounds i true) g' w'' → ∀ v, valO (putAll a ds (vals g')) o = v → K (a'.put o.dst v) w'') → o.wp P a' w' K Q')
    (hPQ : ∀ ch a'' w'', a''.defers = a.defers → PQ ch w'' → Q (.panic ch) a'' w'') (hpost : ∀ g w', R (Array.replicate l.length true) g w' → Q .normal (putAll a ds (vals g)) w') : (Code.region id l.toArray true).wp P Q a w := by
  refine wp_region_any hm ?_
  have hu : unl (Array.replicate l.length false) = l.length := by unfold unl; simp
  have main := gh_anyP21 PQ ok (fun o ho => by have := List.all_eq_true.mp hgd o ho; simpa using this) (dstG_of hdst) (A := fun g => putAll a ds (vals g)) (fun g => putAll_size _ _ _) (fun g => putAll_defers _ _ _) (fun g s h => putAll_other _ _ _ _ (fun d hd e => by obtain ⟨o, ho, hod⟩ := hds d hd; exact h o ho (by rw [hod, e]))) R hstep hPQ hpost l.length (Array.replicate l.length false) g0 a w.drew (by simp) hu h0 ⟨fun k o s hk hl => (by rw [Array.getD_eq_getD_getElem?, Array.getElem?_replicate] at hl; split at hl <;> simp at hl), fun s _ => rfl, rfl, rfl⟩
  have e1 : l.length = l.toArray.size := by simp
  rw [e1] at main
  simpa using main
end
end Go.Proofs.YtiachojhnbicaaaDoor
namespace Go.Proofs.YtiachojhnbicaaaDoor
open Go.RowKit Go.Shelf
set_option linter.unusedSimpArgs false
set_option linter.unusedVariables false
attribute [local go_sem] Oper.semAt_some

def pan21 (e : Int) : List PanicEntry := [{ v := .iface 27 (.int .i64 e), recovered := false }]
theorem askY21 (e : Int) (w : World) : Calls Tryd.prog 45 #[.bool true, .int .i64 e] w fun r w' => r = .returned (.tuple #[]) ∧ w' = w := by
  go_enter Tryd.func45, Tryd.ntmps45
  go_wp2
  exact bodyPost_end (v := .tuple #[]) (by simp [results, Tryd.results45, go_sem]) rfl ⟨rfl, rfl⟩
theorem askN21 (e : Int) (w : World) : Calls Tryd.prog 45 #[.bool false, .int .i64 e] w fun r w' => r = .panicked (pan21 e) ∧ w' = w := by
  unfold pan21
  go_enter Tryd.func45, Tryd.ntmps45
  go_wp2
  exact ⟨rfl, rfl, rfl⟩
structure KR21 (B : Nat) (w w' : World) : Prop where
  lo : Below B w w'
  ot : KX (· = B) w w'
theorem KR21.refl (B : Nat) (w : World) : KR21 B w w := ⟨Below.refl _ _, KX.refl _ _⟩
theorem KR21.trans {B : Nat} {a b c : World} (h : KR21 B a b) (g : KR21 B b c) : KR21 B a c := ⟨h.lo.trans g.lo, h.ot.trans g.ot⟩
theorem KR21.below {B : Nat} {a b c : World} (h : KR21 B a b) (hB : B < a.heap.size) (g : Below b.heap.size b c) : KR21 B a c := ⟨h.lo.trans (g.mono (by have := h.ot.1; omega)), h.ot.below g⟩
theorem KR21.set {B o : Nat} {a b : World} (h : KR21 B a b) (u : Value) : KR21 B a (b.setCell ⟨B, o, none⟩ u) := ⟨h.lo.setCell (p := ⟨B, o, none⟩) (Nat.le_refl _) u, h.ot.set B o u (.inl rfl)⟩
structure RS21 (w0 : World) (B : Nat) (va vl : Value) (l : List Nat) (vp : Value) (w : World) : Prop where
  b : Below w0.heap.size w0 w
  s : w0.heap.size ≤ B
  c : w.heap[B]? = some (.cells #[va, vl, vp] 64)
  r : RwX cB w0 vl l
  a : RowA w0 1 vl l.length (l.map cB)
  x : ∀ z ∈ l, z < 256
  n : l.length ≤ 140737480000000
theorem RS21.lt {w0 : World} {B : Nat} {va vl vp : Value} {l : List Nat} {w : World} (h : RS21 w0 B va vl l vp w) : B < w.heap.size := lt_16 h.c
theorem RS21.below {w0 : World} {B : Nat} {va vl vp : Value} {l : List Nat} {w w' : World} (h : RS21 w0 B va vl l vp w) (hb : Below w.heap.size w w') : RS21 w0 B va vl l vp w' := ⟨keepb hb h.b, h.s, (hb.block _ h.lt).trans h.c, h.r, h.a, h.x, h.n⟩
theorem RS21.left {w0 : World} {B : Nat} {va vl vp : Value} {l : List Nat} {w : World} (h : RS21 w0 B va vl l vp w) {vl' : Value} {l' : List Nat} (hr : RwX cB w0 vl' l') (ha : RowA w0 1 vl' l'.length (l'.map cB)) (hx : ∀ z ∈ l', z < 256) (hn : l'.length ≤ 140737480000000) : RS21 w0 B va vl' l' vp (w.setCell ⟨B, 1, none⟩ vl') :=
  ⟨h.b.setCell (p := ⟨B, 1, none⟩) h.s vl', h.s, by have := set_16 (o := 1) h.c vl'; simpa using this, hr, ha, hx, hn⟩
theorem rwx_take21 {W : World} {ao : Option Addr} {n c z : Nat} {l : List Nat} (h : RwX cB W (.slice ao n c) l) (hz : z ≤ l.length) : RwX cB W (.slice ao z c) (l.take z) := by
  have h2 : RwX cB W (.slice ao n c) (l.take z ++ l.drop z) := by rw [List.take_append_drop]; exact h
  have h3 := rwx_take h2
  rw [List.length_take, Nat.min_eq_left hz] at h3
  exact h3
set_option maxRecDepth 100000 in
set_option maxHeartbeats 4000000 in
theorem nextY21 (w0 : World) (B : Nat) (va vl : Value) (l : List Nat) (vp : Value) (n : Nat) (w : World) (h : RS21 w0 B va vl l vp w) (hn : n ≤ l.length) (h32 : n < 4294967296) :
    Calls Tryd.prog 51 #[.pointer (some ⟨B, 0, none⟩), .int .u32 (n : Int)] w fun r w' => ∃ v' vl', r = .returned v' ∧ RwX cB w0 v' (l.take n) ∧ RowA w0 1 v' n ((l.take n).map cB) ∧ RS21 w0 B va vl' (l.drop n) vp w' ∧ KR21 B w w' := by
  obtain ⟨i0, ji, jz0, jz1, jz2⟩ := info13 Tryd.infoB13
  obtain ⟨lo, lc, hvl, hlc, -⟩ := id h.r
  subst hvl
  have HS := hid13 h
  have z1 := at_16 h.c 1 _ rfl
  have f1 := fr_16 (j := 1) h.c
  have hlb := h.n
  have c1 : IntKind.u64.wrap (n : Int) = (n : Int) := by rw [IntKind.wrap_u64]; omega
  have c2 : IntKind.u64.wrap (l.length : Int) = (l.length : Int) := by rw [IntKind.wrap_u64]; omega
  have l1 : decide ((n : Int) ≤ (l.length : Int)) = true := decide_eq_true (by omega)
  have l1' : decide (n ≤ l.length) = true := decide_eq_true hn
  have hs1 : ∀ X, Sem.run Tryd.prog (Instr.sliceAt 22 (.slice lo l.length lc) none (some (.int .u32 (n : Int))) none) X = .ok (.slice lo n lc) X := by
    intro X
    have hk : n ≤ lc := by omega
    simp [Instr.sliceAt, Instr.slice, Instr.sliceBounds, Instr.sliceBound, run_underlying Tryd.underlying22, sizeOf, typeInfo, ji, hk, go_sem]
  have hs2 : ∀ X, Sem.run Tryd.prog (Instr.sliceAt 22 (.slice lo l.length lc) (some (.int .u32 (n : Int))) none none) X = .ok (.slice (if lc = n then lo else lo.map (·.add (n * 1))) (l.length - n) (lc - n)) X := by
    intro X
    simp [Instr.sliceAt, Instr.slice, Instr.sliceBounds, Instr.sliceBound, run_underlying Tryd.underlying22, sizeOf, typeInfo, ji, jz1, hn, go_sem]
  have HP : Hid (RwX cB w0 (.slice lo n lc) (l.take n) ∧ RowA w0 1 (.slice lo n lc) n ((l.take n).map cB) ∧ RwX cB w0 (.slice (if lc = n then lo else lo.map (·.add (n * 1))) (l.length - n) (lc - n)) (l.drop n) ∧ RowA w0 1 (.slice (if lc = n then lo else lo.map (·.add (n * 1))) (l.length - n) (lc - n)) (l.length - n) ((l.drop n).map cB)) := ⟨rwx_take21 h.r hn, rowA_take21 h.a hn, rwx_from h.r hn, rowA_from21 h.a hn⟩
  generalize (if lc = n then lo else lo.map (·.add (n * 1))) = zo at *
  have HN : Hid (n ≤ l.length) := hn
  clear h hn h32 hlc hlb
  go_enter Tryd.func51, Tryd.ntmps51
  go_wp2_with fail
  refine (askY21 22 w).mono ?_
  rintro e w1 ⟨rfl, hw1⟩
  replace hw1 := hw1.symm
  subst hw1
  go_wp2
  go_ret
  refine ⟨_, _, rfl, HP.out.1, HP.out.2.1, HS.out.left HP.out.2.2.1 ?_ ?_ ?_, (KR21.refl B w).set _⟩
  · rw [List.length_drop]; exact HP.out.2.2.2
  · exact fun z hz => HS.out.x z (List.mem_of_mem_drop hz)
  · rw [List.length_drop]; have := HS.out.n; omega
set_option maxRecDepth 100000 in
set_option maxHeartbeats 4000000 in
theorem nextN21 (w0 : World) (B : Nat) (va vl : Value) (l : List Nat) (vp : Value) (n : Nat) (w : World) (h : RS21 w0 B va vl l vp w) (hn : ¬ n ≤ l.length) (h32 : n < 4294967296) :
    Calls Tryd.prog 51 #[.pointer (some ⟨B, 0, none⟩), .int .u32 (n : Int)] w fun r w' => r = .panicked (pan21 22) ∧ w' = w := by
  obtain ⟨lo, lc, hvl, hlc, -⟩ := id h.r
  subst hvl
  have z1 := at_16 h.c 1 _ rfl
  have hlb := h.n
  have c1 : IntKind.u64.wrap (n : Int) = (n : Int) := by rw [IntKind.wrap_u64]; omega
  have c2 : IntKind.u64.wrap (l.length : Int) = (l.length : Int) := by rw [IntKind.wrap_u64]; omega
  have l1 : decide ((n : Int) ≤ (l.length : Int)) = false := decide_eq_false (by omega)
  have l1' : decide (n ≤ l.length) = false := decide_eq_false hn
  clear h hn h32 hlc hlb
  go_enter Tryd.func51, Tryd.ntmps51
  go_wp2_with fail
  refine (askN21 22 w).mono ?_
  rintro e w1 ⟨rfl, hw1⟩
  replace hw1 := hw1.symm
  subst hw1
  exact ⟨rfl, rfl, rfl⟩
set_option maxRecDepth 100000 in
set_option maxHeartbeats 4000000 in
theorem numY21 (w0 : World) (B : Nat) (va vl : Value) (l : List Nat) (vp : Value) (w : World) (h : RS21 w0 B va vl l vp w) (hn : 4 ≤ l.length) :
    Calls Tryd.prog 46 #[.pointer (some ⟨B, 0, none⟩)] w fun r w' => ∃ vl', r = .returned (.int .u32 ((numN13 (l.take 4) : Nat) : Int)) ∧ RS21 w0 B va vl' (l.drop 4) vp w' ∧ KR21 B w w' := by
  have K1 := nextY21 w0 B va vl l vp 4 w h hn (by decide)
  have HS := hid13 h
  have HN := hid13 hn
  clear h hn
  go_enter Tryd.func46, Tryd.ntmps46
  go_wp2_with fail
  refine K1.mono ?_
  rintro e w1 ⟨v1, vl1, rfl, hr1, ha1, hs1, hk1⟩
  have hlt4 : (l.take 4).length = 4 := by rw [List.length_take]; have := HN.out; omega
  have K2 := get32_any v1 (l.take 4) 0 w1 (hr1.below (hs1.b)) (by rw [hlt4]; decide) (fun b hb => HS.out.x b (List.mem_of_mem_take hb)) (by decide) (by decide)
  have e1 : gtN (l.take 4) 0 4 = numN13 (l.take 4) := by
    unfold gtN
    rw [if_pos ⟨by decide, by rw [hlt4]; decide⟩]
    congr 1
    rw [show (0 : Int).toNat = 0 from rfl, List.drop_zero, List.take_of_length_le (by rw [hlt4]; exact Nat.le_refl _)]
  rw [e1] at K2
  have H1 := hid13 (And.intro hs1 hk1)
  obtain ⟨o1, c1, hv1⟩ : ∃ o c, v1 = .slice o 4 c := by obtain ⟨-, o, c, hh, -⟩ := ha1; exact ⟨o, c, hh⟩
  subst hv1
  generalize gtE (l.take 4) 0 4 = y at *
  obtain ⟨m, hm⟩ : ∃ m, m = numN13 (l.take 4) := ⟨_, rfl⟩
  have HM := hid13 hm
  rw [← hm] at K2
  clear hm
  clear K1 hr1 ha1 hs1 hk1 e1 hlt4
  go_wp2_with fail
  refine K2.mono ?_
  rintro e w2 ⟨rfl, hb⟩
  have H2 := hid13 hb
  clear hb K2
  go_wp2
  go_ret
  exact ⟨_, by rw [← HM.out]; rfl, H1.out.1.below H2.out, H1.out.2.below HS.out.lt H2.out⟩
set_option maxRecDepth 100000 in
set_option maxHeartbeats 4000000 in
theorem numN21 (w0 : World) (B : Nat) (va vl : Value) (l : List Nat) (vp : Value) (w : World) (h : RS21 w0 B va vl l vp w) (hn : ¬ 4 ≤ l.length) :
    Calls Tryd.prog 46 #[.pointer (some ⟨B, 0, none⟩)] w fun r w' => r = .panicked (pan21 22) ∧ w' = w := by
  have K1 := nextN21 w0 B va vl l vp 4 w h hn (by decide)
  clear h hn
  go_enter Tryd.func46, Tryd.ntmps46
  go_wp2_with fail
  refine K1.mono ?_
  rintro e w1 ⟨rfl, hw1⟩
  replace hw1 := hw1.symm
  subst hw1
  exact ⟨rfl, rfl, rfl⟩
end Go.Proofs.YtiachojhnbicaaaDoor
namespace Go.Proofs.YtiachojhnbicaaaDoor
open Go.RowKit Go.Shelf
set_option linter.unusedSimpArgs false
set_option linter.unusedVariables false
attribute [local go_sem] Oper.semAt_some

def pcP (l : List Nat) : Option (Pt × List Nat) :=
  if l.length < 12 then none
  else if (l.drop 12).length < numN13 ((l.drop 8).take 4) then none
  else some (⟨(numN13 (l.take 4) : Int), (numN13 ((l.drop 4).take 4) : Int), (l.drop 12).take (numN13 ((l.drop 8).take 4))⟩, (l.drop 12).drop (numN13 ((l.drop 8).take 4)))
def lsP : Nat → List Nat → Option (List Pt × List Nat)
  | 0, l => some ([], l)
  | n + 1, l => match pcP l with
    | none => none
    | some (p, r) => match lsP n r with
      | none => none
      | some (L, r') => some (p :: L, r')
theorem numN4_lt (l : List Nat) (hx : ∀ z ∈ l, z < 256) : numN13 (l.take 4) < 4294967296 := by
  refine Nat.lt_of_lt_of_le (numN_lt _ (fun b hb => hx b (List.mem_of_mem_take hb))) ?_
  exact Nat.le_trans (Nat.pow_le_pow_right (by decide) (by rw [List.length_take]; exact Nat.min_le_left _ _)) (by decide)
theorem KR21.setN {B N o : Nat} {a b : World} (h : KR21 B a b) (hB : B < a.heap.size) (hN : a.heap.size ≤ N) (u : Value) : KR21 B a (b.setCell ⟨N, o, none⟩ u) := ⟨h.lo.setCell (p := ⟨N, o, none⟩) (show B ≤ N by omega) u, h.ot.set N o u (.inr hN)⟩
theorem RS21.far {w0 : World} {B : Nat} {va vl vp : Value} {l : List Nat} {w : World} (h : RS21 w0 B va vl l vp w) {N o : Nat} (hN : w0.heap.size ≤ N) (hne : B ≠ N) (u : Value) : RS21 w0 B va vl l vp (w.setCell ⟨N, o, none⟩ u) :=
  ⟨h.b.setCell (p := ⟨N, o, none⟩) hN u, h.s, (far_16 hne).trans h.c, h.r, h.a, h.x, h.n⟩
set_option maxRecDepth 100000 in
set_option maxHeartbeats 8000000 in
theorem patchY21 (w0 : World) (B : Nat) (va vl : Value) (l : List Nat) (vp : Value) (p : Pt) (r : List Nat) (w : World) (h : RS21 w0 B va vl l vp w) (hp : pcP l = some (p, r)) :
    Calls Tryd.prog 48 #[.pointer (some ⟨B, 0, none⟩)] w fun e w' => ∃ vx vl', e = .returned (.agg #[.int .i64 p.k, .int .i64 p.d, vx]) ∧ w'.ownsRow w.heap.size 5 1 vx p.x.length (p.x.map cB) ∧ RS21 w0 B va vl' r vp w' ∧ KR21 B w w' := by
  unfold pcP at hp
  by_cases h12 : l.length < 12
  · rw [if_pos h12] at hp; cases hp
  rw [if_neg h12] at hp
  by_cases hm : (l.drop 12).length < numN13 ((l.drop 8).take 4)
  · rw [if_pos hm] at hp; cases hp
  rw [if_neg hm] at hp
  injection hp with hp
  injection hp with hp hr
  have n1 := numN4_lt l h.x
  have n2 := numN4_lt (l.drop 4) (fun z hz => h.x z (List.mem_of_mem_drop hz))
  have n3 := numN4_lt (l.drop 8) (fun z hz => h.x z (List.mem_of_mem_drop hz))
  obtain ⟨kk, hkk⟩ : ∃ k, k = numN13 (l.take 4) := ⟨_, rfl⟩
  obtain ⟨dd, hdd⟩ : ∃ k, k = numN13 ((l.drop 4).take 4) := ⟨_, rfl⟩
  obtain ⟨mm, hmm⟩ : ∃ k, k = numN13 ((l.drop 8).take 4) := ⟨_, rfl⟩
  rw [← hkk] at n1 hp
  rw [← hdd] at n2 hp
  rw [← hmm] at n3 hp hr hm
  have HP : Hid (p.k = (kk : Int) ∧ p.d = (dd : Int) ∧ p.x = (l.drop 12).take mm ∧ r = (l.drop 12).drop mm ∧ p.x.length = mm ∧ 12 ≤ l.length) := by
    refine ⟨by rw [← hp], by rw [← hp], by rw [← hp], hr.symm, ?_, by omega⟩
    rw [← hp]
    show ((l.drop 12).take mm).length = mm
    rw [List.length_take]
    omega
  have c1 : IntKind.i64.wrap (kk : Int) = (kk : Int) := by rw [IntKind.wrap_i64]; omega
  have c2 : IntKind.i64.wrap (dd : Int) = (dd : Int) := by rw [IntKind.wrap_i64]; omega
  have HM : Hid (mm ≤ (l.drop 12).length ∧ mm < 4294967296) := ⟨by omega, n3⟩
  have HE : Hid (kk = numN13 (l.take 4) ∧ dd = numN13 ((l.drop 4).take 4) ∧ mm = numN13 ((l.drop 8).take 4)) := ⟨hkk, hdd, hmm⟩
  have q1 := bl1 w (.cells #[.int .i64 0, .int .i64 0, .slice none 0 0] 34)
  obtain ⟨w1, hw1⟩ : ∃ w1, w1 = w.alloc (.cells #[.int .i64 0, .int .i64 0, .slice none 0 0] 34) := ⟨_, rfl⟩
  have hcb : w1.heap[w.heap.size]? = some (.cells #[.int .i64 0, .int .i64 0, .slice none 0 0] 34) := by rw [hw1]; exact new_16 _ _
  rw [← hw1] at q1
  have HW1 : Hid (w1 = w.alloc (.cells #[.int .i64 0, .int .i64 0, .slice none 0 0] 34)) := hw1
  have H1 : Hid (RS21 w0 B va vl l vp w1 ∧ KR21 B w w1 ∧ B < w.heap.size ∧ w1.heap[w.heap.size]? = some (.cells #[.int .i64 0, .int .i64 0, .slice none 0 0] 34) ∧ w0.heap.size ≤ w.heap.size) := ⟨h.below q1, (KR21.refl B w).below h.lt q1, h.lt, hcb, h.b.size⟩
  have K1 := numY21 w0 B va vl l vp w1 H1.out.1 (by have := HP.out; omega)
  rw [← HE.out.1] at K1
  clear h hp hr hm n1 n2 n3 hkk hdd hmm h12 q1 hw1 hcb
  go_enter Tryd.func48, Tryd.ntmps48
  go_wp2_with fail
  rw [← HW1.out]
  refine K1.mono ?_
  rintro e w2 ⟨vl2, rfl, hs2, hk2⟩
  have H2 := hid13 (And.intro hs2 (H1.out.2.1.trans hk2))
  have hc2 : w2.heap[w.heap.size]? = some (.cells #[.int .i64 0, .int .i64 0, .slice none 0 0] 34) := (hk2.ot.2 _ (lt_16 H1.out.2.2.2.1) (by have := H1.out.2.2.1; omega)).trans H1.out.2.2.2.1
  have HC2 := hid13 hc2
  have K2 := numY21 w0 B va vl2 (l.drop 4) vp w2 hs2 (by rw [List.length_drop]; have := HP.out; omega)
  rw [← HE.out.2.1, List.drop_drop] at K2
  clear K1 hs2 hk2 hc2
  go_wp2_with fail
  refine K2.mono ?_
  rintro e w3 ⟨vl3, rfl, hs3, hk3⟩
  have H3 := hid13 (And.intro hs3 (H2.out.2.trans hk3))
  have hc3 : w3.heap[w.heap.size]? = some (.cells #[.int .i64 0, .int .i64 0, .slice none 0 0] 34) := (hk3.ot.2 _ (lt_16 HC2.out) (by have := H1.out.2.2.1; omega)).trans HC2.out
  have HC3 := hid13 hc3
  have K3 := numY21 w0 B va vl3 (l.drop (4 + 4)) vp w3 hs3 (by rw [List.length_drop]; have := HP.out; omega)
  rw [← HE.out.2.2, List.drop_drop] at K3
  clear K2 hs3 hk3 hc3 H2 HC2
  go_wp2_with fail
  refine K3.mono ?_
  rintro e w4 ⟨vl4, rfl, hs4, hk4⟩
  have H4 := hid13 (And.intro hs4 (H3.out.2.trans hk4))
  have hc4 : w4.heap[w.heap.size]? = some (.cells #[.int .i64 0, .int .i64 0, .slice none 0 0] 34) := (hk4.ot.2 _ (lt_16 HC3.out) (by have := H1.out.2.2.1; omega)).trans HC3.out
  have HC4 := hid13 hc4
  have K4 := nextY21 w0 B va vl4 (l.drop (4 + 4 + 4)) vp mm w4 hs4 HM.out.1 HM.out.2
  clear K3 hs4 hk4 hc4 H3 HC3
  go_wp2_with fail
  refine K4.mono ?_
  rintro e w5 ⟨v5, vl5, rfl, hr5, ha5, hs5, hk5⟩
  have H5 := hid13 (And.intro hs5 (H4.out.2.trans hk5))
  have hc5 : w5.heap[w.heap.size]? = some (.cells #[.int .i64 0, .int .i64 0, .slice none 0 0] 34) := (hk5.ot.2 _ (lt_16 HC4.out) (by have := H1.out.2.2.1; omega)).trans HC4.out
  have HC5 := hid13 hc5
  have hxl : ((l.drop (4 + 4 + 4)).take mm).length = mm := by have := HP.out.2.2.2.2.1; rw [HP.out.2.2.1] at this; exact this
  have K5 := clone21 v5 ((l.drop (4 + 4 + 4)).take mm) w5 (by rw [hxl]; exact ha5.below hs5.b) (by rw [hxl]; have := HM.out; omega)
  clear K4 hr5 ha5 hs5 hk5 hc5 H4 HC4 hxl
  go_wp2_with fail
  refine K5.mono ?_
  rintro e w6 ⟨vx, rfl, ho6, hb6⟩
  have H6 := hid13 (And.intro (H5.out.1.below hb6) (H5.out.2.below H1.out.2.2.1 hb6))
  have hc6 : w6.heap[w.heap.size]? = some (.cells #[.int .i64 0, .int .i64 0, .slice none 0 0] 34) := (hb6.block _ (lt_16 HC5.out)).trans HC5.out
  have HC6 := hid13 hc6
  have hnb : vx.ownBlock ≠ some w.heap.size := by
    intro e
    have h1 := (ho6.lt _ e).1
    have h2 := lt_16 HC5.out
    omega
  have HO6 : Hid (w6.ownsRow w.heap.size 5 1 vx p.x.length (p.x.map cB) ∧ vx.ownBlock ≠ some w.heap.size) := by
    refine ⟨?_, hnb⟩
    rw [HP.out.2.2.1]
    exact own_base16 ho6 (by have := lt_16 HC5.out; omega)
  obtain ⟨xo, xc, hvx⟩ : ∃ o c, vx = .slice o ((l.drop (4 + 4 + 4)).take mm).length c := own_form ho6
  subst hvx
  have z0 := at_16 hc6 0 _ rfl
  have z1 := at_16 hc6 1 _ rfl
  have z2 := at_16 hc6 2 _ rfl
  have f0 := fr_16 (j := 0) hc6
  have f1 := fr_16 (j := 1) hc6
  have f2 := fr_16 (j := 2) hc6
  have hne : B ≠ w.heap.size := by have := H1.out.2.2.1; omega
  clear K5 ho6 hb6 hc6 H5 HC5 hnb
  generalize ((l.drop (4 + 4 + 4)).take mm).length = xn at *
  go_wp2
  have hdd2 : ((l.drop (4 + 4 + 4)).drop mm) = r := HP.out.2.2.2.1.symm
  have hfin := ((H6.out.1.far (N := w.heap.size) (o := 0) H1.out.2.2.2.2 hne (.int .i64 (kk : Int))).far (N := w.heap.size) (o := 1) H1.out.2.2.2.2 hne (.int .i64 (dd : Int))).far (N := w.heap.size) (o := 2) H1.out.2.2.2.2 hne (.slice xo xn xc)
  rw [hdd2] at hfin
  refine bodyPost_ret (v := .agg #[.int .i64 (kk : Int), .int .i64 (dd : Int), .slice xo xn xc]) (by simp [results, Tryd.results48, go_sem, *]) rfl ⟨_, _, by rw [HP.out.1, HP.out.2.1], own_put3 HO6.out.1 HO6.out.2 _ _ _, hfin, ((H6.out.2.setN H1.out.2.2.1 (Nat.le_refl _) _).setN H1.out.2.2.1 (Nat.le_refl _) _).setN H1.out.2.2.1 (Nat.le_refl _) _⟩
set_option maxRecDepth 100000 in
set_option maxHeartbeats 8000000 in
theorem patchN21 (w0 : World) (B : Nat) (va vl : Value) (l : List Nat) (vp : Value) (w : World) (h : RS21 w0 B va vl l vp w) (hp : pcP l = none) :
    Calls Tryd.prog 48 #[.pointer (some ⟨B, 0, none⟩)] w fun e w' => e = .panicked (pan21 22) ∧ KR21 B w w' := by
  have q1 := bl1 w (.cells #[.int .i64 0, .int .i64 0, .slice none 0 0] 34)
  obtain ⟨w1, hw1⟩ : ∃ w1, w1 = w.alloc (.cells #[.int .i64 0, .int .i64 0, .slice none 0 0] 34) := ⟨_, rfl⟩
  rw [← hw1] at q1
  have HW1 : Hid (w1 = w.alloc (.cells #[.int .i64 0, .int .i64 0, .slice none 0 0] 34)) := hw1
  have H1 : Hid (RS21 w0 B va vl l vp w1 ∧ KR21 B w w1) := ⟨h.below q1, (KR21.refl B w).below h.lt q1⟩
  have HX := hid13 h.x
  clear hw1 q1 h
  by_cases h4 : 4 ≤ l.length
  rotate_left 1
  · have K1 := numN21 w0 B va vl l vp w1 H1.out.1 h4
    clear hp h4
    go_enter Tryd.func48, Tryd.ntmps48
    go_wp2_with fail
    rw [← HW1.out]
    refine K1.mono ?_
    rintro e w2 ⟨rfl, hw2⟩
    replace hw2 := hw2.symm
    subst hw2
    exact ⟨rfl, rfl, H1.out.2⟩
  have K1 := numY21 w0 B va vl l vp w1 H1.out.1 h4
  obtain ⟨kk, hkk⟩ : ∃ k, k = numN13 (l.take 4) := ⟨_, rfl⟩
  rw [← hkk] at K1
  clear hkk
  by_cases h8 : 4 ≤ (l.drop 4).length
  rotate_left 1
  · have H8 := hid13 h8
    clear hp h4 h8
    go_enter Tryd.func48, Tryd.ntmps48
    go_wp2_with fail
    rw [← HW1.out]
    refine K1.mono ?_
    rintro e w2 ⟨vl2, rfl, hs2, hk2⟩
    have H2 := hid13 (H1.out.2.trans hk2)
    have K2 := numN21 w0 B va vl2 (l.drop 4) vp w2 hs2 H8.out
    clear K1 hs2 hk2
    go_wp2_with fail
    refine K2.mono ?_
    rintro e w3 ⟨rfl, hw3⟩
    replace hw3 := hw3.symm
    subst hw3
    exact ⟨rfl, rfl, H2.out⟩
  have H8 := hid13 h8
  obtain ⟨dd, hdd⟩ : ∃ k, k = numN13 ((l.drop 4).take 4) := ⟨_, rfl⟩
  have HD := hid13 hdd
  by_cases h12 : 4 ≤ (l.drop (4 + 4)).length
  rotate_left 1
  · have H12 := hid13 h12
    clear hp h4 h8 h12 hdd
    go_enter Tryd.func48, Tryd.ntmps48
    go_wp2_with fail
    rw [← HW1.out]
    refine K1.mono ?_
    rintro e w2 ⟨vl2, rfl, hs2, hk2⟩
    have H2 := hid13 (H1.out.2.trans hk2)
    have K2 := numY21 w0 B va vl2 (l.drop 4) vp w2 hs2 H8.out
    rw [← HD.out, List.drop_drop] at K2
    clear K1 hs2 hk2
    go_wp2_with fail
    refine K2.mono ?_
    rintro e w3 ⟨vl3, rfl, hs3, hk3⟩
    have H3 := hid13 (H2.out.trans hk3)
    have K3 := numN21 w0 B va vl3 (l.drop (4 + 4)) vp w3 hs3 H12.out
    clear K2 hs3 hk3
    go_wp2_with fail
    refine K3.mono ?_
    rintro e w4 ⟨rfl, hw4⟩
    replace hw4 := hw4.symm
    subst hw4
    exact ⟨rfl, rfl, H3.out⟩
  have H12 := hid13 h12
  obtain ⟨mm, hmm⟩ : ∃ k, k = numN13 ((l.drop (4 + 4)).take 4) := ⟨_, rfl⟩
  have HM := hid13 hmm
  have n3 := numN4_lt (l.drop 8) (fun z hz => HX.out z (List.mem_of_mem_drop hz))
  have HN : Hid (¬ mm ≤ (l.drop (4 + 4 + 4)).length ∧ mm < 4294967296) := by
    refine ⟨?_, by rw [hmm]; exact n3⟩
    intro hle
    unfold pcP at hp
    rw [List.length_drop] at h12
    rw [if_neg (by omega : ¬ l.length < 12), if_neg (by
      have e : numN13 ((l.drop 8).take 4) = mm := hmm.symm
      rw [e]
      have : (l.drop 12).length = (l.drop (4 + 4 + 4)).length := rfl
      omega)] at hp
    cases hp
  clear hp h4 h8 h12 hdd hmm n3
  go_enter Tryd.func48, Tryd.ntmps48
  go_wp2_with fail
  rw [← HW1.out]
  refine K1.mono ?_
  rintro e w2 ⟨vl2, rfl, hs2, hk2⟩
  have H2 := hid13 (H1.out.2.trans hk2)
  have K2 := numY21 w0 B va vl2 (l.drop 4) vp w2 hs2 H8.out
  rw [← HD.out, List.drop_drop] at K2
  clear K1 hs2 hk2
  go_wp2_with fail
  refine K2.mono ?_
  rintro e w3 ⟨vl3, rfl, hs3, hk3⟩
  have H3 := hid13 (H2.out.trans hk3)
  have K3 := numY21 w0 B va vl3 (l.drop (4 + 4)) vp w3 hs3 H12.out
  rw [← HM.out, List.drop_drop] at K3
  clear K2 hs3 hk3
  go_wp2_with fail
  refine K3.mono ?_
  rintro e w4 ⟨vl4, rfl, hs4, hk4⟩
  have H4 := hid13 (H3.out.trans hk4)
  have K4 := nextN21 w0 B va vl4 (l.drop (4 + 4 + 4)) vp mm w4 hs4 HN.out.1 HN.out.2
  clear K3 hs4 hk4
  go_wp2_with fail
  refine K4.mono ?_
  rintro e w5 ⟨rfl, hw5⟩
  replace hw5 := hw5.symm
  subst hw5
  exact ⟨rfl, rfl, H4.out⟩
end Go.Proofs.YtiachojhnbicaaaDoor
