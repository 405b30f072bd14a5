/-
  Part 14 of the proof: 4 texts, one behind the other.
-/
import Derived.Test.YtofpbommhklooaaPart13
import Derived.Test.YtofpbommhklooaaPart11
import Derived.Test.YtofpbommhklooaaPart7
import Derived.Test.YtofpbommhklooaaPart1
import Derived.Test.YtofpbommhklooaaPart12
import Derived.Test.YtofpbommhklooaaPart8
/-
  Regions that draw their order, in a round of a range over a function.
-/
namespace Go.Proofs.Ytofpbommhklooaa
open Go.RowKit Go.Shelf
set_option linter.unusedSimpArgs false
set_option linter.unusedVariables false

section
variable {P : Program}
/-- No deferred call. -/
def notD (o : Oper) : Bool := match o.op with | .defer _ => false | _ => true
theorem notD_ne {o : Oper} (h : notD o = true) : ∀ c, o.op ≠ .defer c := fun c e => by
  unfold notD at h
  rw [e] at h
  cases h
theorem oper_round {n l : Nat} {o : Oper} {a : Act} {w : World} {K : Act → World → Prop} {Q : Exit → Act → World → Prop} (hd : notD o = true) (h : o.wp P a w K Q) : o.wpIn (Fence.wide.inRound l) n P a w K Q := by
  refine ⟨fun _ _ => trivial, ?_⟩
  rw [Fence.inRound_round, Oper.semAt_some l _ o (notD_ne hd)]
  unfold Oper.wp Oper.upon at h
  unfold Oper.uponIn
  cases hr : (execOp a.eval o).run P w with
  | ok x w' =>
    rw [hr] at h
    cases x with
    | value v => exact h
    | skip => exact h
    | defer d => exact h
    | enter f args => exact ⟨fun q => (by cases q), CallsIn.inRound l (callsIn_wide.2 h)⟩
    | row r args => exact ⟨fun q => (by cases q), fun c cs _ => let ⟨v, w'', r', s⟩ := h c cs; ⟨v, w'', r', stepsIn_wide.2 s⟩⟩
    | _ => exact h.elim
  | halt x w' =>
    rw [hr] at h
    cases x with
    | panic v => exact h
    | _ => exact h.elim
theorem any_round {n l : Nat} {md : Region.Mode} {ops : Array Oper} {Q : Exit → Act → World → Prop} (hno : ¬ LetsOut Q) (hd : (ops.toList.all notD) = true) : ∀ (fuel : Nat) (listed : Array Bool) (a : Act) (w : World), wpAny P md ops Q fuel listed a w → wpAnyIn (Fence.wide.inRound l) n P md ops Q fuel listed a w
  | 0, listed, a, w, h => h
  | fuel + 1, listed, a, w, h => by
    refine ⟨h.1, fun i hi => ?_⟩
    have := h.2 i hi
    unfold wpOp at this
    unfold wpOpIn
    cases ho : ops[i]? with
    | none =>
      rw [ho] at this
      exact any_round hno hd fuel _ _ _ this
    | some o =>
      rw [ho] at this
      simp only at this ⊢
      have hnd : notD o = true := List.all_eq_true.mp hd o (by
        have := Array.mem_of_getElem? ho
        simpa using this)
      by_cases hw : Region.wanted o (yielded ops a.tmps) = true
      · rw [if_pos hw] at this ⊢
        exact Oper.wpIn_mono (fun a w h => any_round hno hd fuel _ a w h) (oper_round hnd (this.elim id (fun h => absurd h.2 hno)))
      · rw [if_neg hw] at this ⊢
        exact ⟨fun _ _ => trivial, any_round hno hd fuel _ _ _ this⟩
theorem region_round {n l id : Nat} {ops : Array Oper} {Q : Exit → Act → World → Prop} {a : Act} {w : World} (hno : ¬ LetsOut Q) (hm : P.follows .mixedOrders = true) (hd : (ops.toList.all notD) = true) (h : wpAny P .any ops Q ops.size (Array.replicate ops.size false) a w.drew) : (Code.region id ops true).wpIn (Fence.wide.inRound l) n P Q a w := wpIn_region_any hm (any_round hno hd _ _ _ _ h)
theorem q_regionR {n lo : Nat} {C : World → Prop} {id : Nat} {Q : Exit → Act → World → Prop} {a : Act} {w : World} {l : List Oper} (hno : ¬ LetsOut Q) (hm : P.follows .mixedOrders = true) (hB : Region.lexB .any l.toArray = true) (hd : (l.all notD) = true) (hC : C w.drew)
    (h : QW P l.toArray C (fun a' => ∀ w', C w' → Q .normal a' w') l a) : (Code.region id l.toArray true).wpIn (Fence.wide.inRound lo) n P Q a w := by
  have hq := h.out
  simp only [Region.lexB, Bool.and_eq_true] at hB
  refine region_round hno hm (by simpa using hd) (wpAny_of_quiet (Q := fun a' => ∀ w', C w' → Q .normal a' w') (fun _ w' hw' h => h w' hw') _ _ _ _ hC ?_)
  have := wpAnyQ_lex (C := C) (md := .any) hB.1 l 0 (Array.replicate l.toArray.size false) a (by simp) (by simpa using hB.2) hq
  simpa using this
theorem gh_regionR {n lo : Nat} {γ : Type} {id : Nat} {l : List Oper} (ok : QpOk l l.length l.length) (hgd : (l.all fun o => o.guard.isNone) = true) (hdst : dstG l = true) (hd : (l.all notD) = true) {Q : Exit → Act → World → Prop} {a : Act} {w : World} (hno : ¬ LetsOut Q) (ds : List (Option Tmp)) (vals : γ → List Value) (hm : P.follows .mixedOrders = true) (hds : ∀ d ∈ ds, ∃ o ∈ l, o.dst = d) (R : Array Bool → γ → World → Prop) (g0 : γ) (h0 : R (Array.replicate l.length false) g0 w.drew)
    (hstep : ∀ (i : Nat) (o : Oper) (lp : Array Bool) (g : γ) (w' : World) (a' : Act), l[i]? = some o → lp.size = l.length → lp.getD i false = false → (∀ e ∈ o.after, Region.binds .any e = true → lp.getD e.on false = true) → R lp g w' → Slt l a (putAll a ds (vals g)) lp a' →
      ∀ (K : Act → World → Prop) Q', (∀ g' w'', (∀ (k : Nat) (o : Oper) (s : Nat), l[k]? = some o → lp.getD k false = true → o.dst = some s → (putAll a ds (vals g')).tmps[s]? = (putAll a ds (vals g)).tmps[s]?) → R (lp.setIfInBounds i true) g' w'' → ∀ v, valO (putAll a ds (vals g')) o = v → K (a'.put o.dst v) w'') → o.wp P a' w' K Q')
    (hpost : ∀ g w', R (Array.replicate l.length true) g w' → Q .normal (putAll a ds (vals g)) w') : (Code.region id l.toArray true).wpIn (Fence.wide.inRound lo) n P Q a w := by
  refine region_round hno hm (by simpa using hd) ?_
  have hu : unl (Array.replicate l.length false) = l.length := by unfold unl; simp
  have main := gh_any ok (fun o ho => by have := List.all_eq_true.mp hgd o ho; simpa using this) (dstG_of hdst) (A := fun g => putAll a ds (vals g)) (fun g => putAll_size _ _ _) (fun g => putAll_defers _ _ _) (fun g s h => putAll_other _ _ _ _ (fun d hd e => by obtain ⟨o, ho, hod⟩ := hds d hd; exact h o ho (by rw [hod, e]))) R hstep hpost l.length (Array.replicate l.length false) g0 a w.drew (by simp) hu h0 ⟨fun k o s hk hl => (by rw [Array.getD_eq_getD_getElem?, Array.getElem?_replicate] at hl; split at hl <;> simp at hl), fun s _ => rfl, rfl, rfl⟩
  have e1 : l.length = l.toArray.size := by simp
  rw [e1] at main
  simpa using main
end
end Go.Proofs.Ytofpbommhklooaa
/-
  What the sequence of package prefix's rising tells.
-/
namespace Go.Proofs.Ytofpbommhklooaa
open Go.RowKit Go.Shelf
set_option linter.unusedSimpArgs false
set_option linter.unusedVariables false
attribute [local go_sem] Oper.semAt_some

theorem hidX {p : Prop} (h : p) : Hid p := h
/-- The words that rise by a step. -/
def ris (st : BitVec 128) : Nat → BitVec 128 → List (BitVec 128)
  | 0, x => [x]
  | n + 1, x => x :: ris st n (x + st)
/-- So many steps on it comes to the last one, and no sooner. -/
def RisTo (st la : BitVec 128) : Nat → BitVec 128 → Prop
  | 0, x => x = la
  | n + 1, x => x ≠ la ∧ RisTo st la n (x + st)
theorem ris_len (st : BitVec 128) : ∀ (n : Nat) (x : BitVec 128), (ris st n x).length = n + 1
  | 0, x => rfl
  | n + 1, x => by rw [ris, List.length_cons, ris_len st n]
theorem ris_to (st la : BitVec 128) (hs : 0 < st.toNat) : ∀ (n : Nat) (x : BitVec 128), x.toNat + n * st.toNat = la.toNat → RisTo st la n x
  | 0, x, h => BitVec.eq_of_toNat_eq (by simpa using h)
  | n + 1, x, h => by
    have hl := la.isLt
    have e : (n + 1) * st.toNat = n * st.toNat + st.toNat := Nat.succ_mul n _
    refine ⟨fun q => ?_, ris_to st la hs n (x + st) ?_⟩
    · rw [q] at h
      omega
    · rw [BitVec.toNat_add, Nat.mod_eq_of_lt (by omega)]
      omega
theorem ris_one (st la : BitVec 128) : ∀ (m m' : Nat) (y : BitVec 128), RisTo st la m y → RisTo st la m' y → m = m'
  | 0, 0, y, _, _ => rfl
  | 0, m' + 1, y, h, h' => absurd h h'.1
  | m + 1, 0, y, h, h' => absurd h' h.1
  | m + 1, m' + 1, y, h, h' => by rw [ris_one st la m m' (y + st) h.2 h'.2]
theorem at_one {W : World} {b : Nat} {x y : BitVec 128} (h : At W b x) (g : At W b y) : x = y := by
  have a := h.1.symm.trans g.1
  have b := h.2.1.symm.trans g.2.1
  have a' : hI x = hI y := by simpa using a
  have b' : lI x = lI y := by simpa using b
  rcases eqw x y with ⟨-, -, q⟩ | ⟨q, -⟩ | ⟨-, q, -⟩
  · simpa using q
  · rw [a'] at q
    simp at q
  · rw [b'] at q
    simp at q
theorem mu_ex (st la : BitVec 128) : ∃ mu : Value → World → Nat, ∀ (b : Nat) (y : BitVec 128) (m : Nat) (wr : World), At wr b y → RisTo st la m y → mu (.pointer (some ⟨b, 0, none⟩)) wr = m := by
  classical
  refine ⟨fun p wr => if h : ∃ m : Nat, ∃ b y, p = .pointer (some ⟨b, 0, none⟩) ∧ At wr b y ∧ RisTo st la m y then Classical.choose h else 0, fun b y m wr h1 h2 => ?_⟩
  have hex : ∃ m : Nat, ∃ b' y', (Value.pointer (some ⟨b, 0, none⟩)) = .pointer (some ⟨b', 0, none⟩) ∧ At wr b' y' ∧ RisTo st la m y' := ⟨m, b, y, rfl, h1, h2⟩
  simp only
  rw [dif_pos hex]
  obtain ⟨b', y', e, h3, h4⟩ := Classical.choose_spec hex
  injection e with e
  injection e with e
  injection e with e
  subst e
  have := at_one h1 h3
  subst this
  exact ris_one st la _ _ y h4 h2
def encW (x : BitVec 128) : Array Value := #[.agg #[.int .u64 (hI x), .int .u64 (lI x)]]
theorem below_grownX {w W : World} {r : Option Nat} (h : Below w.heap.size w W) : w.grownBy W r := ⟨h.os, h.tape, h.output, h.size, fun z h1 _ => h.block z h1⟩
/-- What rising's sequence reads. -/
structure RsM (Z : Nat → Prop) (B A L T : Nat) (x la st : BitVec 128) (W : World) : Prop where
  a : At W A x
  l : At W L la
  s : At W T st
  za : Z A ∨ B ≤ A
  zl : Z L ∨ B ≤ L
  zs : Z T ∨ B ≤ T
theorem At.kw {Z : Nat → Prop} {B : Nat} {W W' : World} {b : Nat} {x : BitVec 128} (k : At W b x) (h : KW Z B W W') (hz : Z b ∨ B ≤ b) : At W' b x := by
  obtain ⟨c0, c1, f0, f1, hlt⟩ := k
  have e : W'.heap[b]? = W.heap[b]? := by rw [h.2 b _ (Array.getElem?_eq_getElem hlt) hz, Array.getElem?_eq_getElem hlt]
  exact ⟨(World.cell?_of_block (a := ⟨b, 0, none⟩) e).trans c0, (World.cell?_of_block (a := ⟨b, 1, none⟩) e).trans c1, (World.frozen?_of_block (a := ⟨b, 0, none⟩) e).trans f0, (World.frozen?_of_block (a := ⟨b, 1, none⟩) e).trans f1, Nat.lt_of_lt_of_le hlt h.1⟩
theorem RsM.kw {Z : Nat → Prop} {B A L T : Nat} {x la st : BitVec 128} {W W' : World} (k : RsM Z B A L T x la st W) (h : KW Z B W W') : RsM Z B A L T x la st W' := ⟨k.a.kw h k.za, k.l.kw h k.zl, k.s.kw h k.zs, k.za, k.zl, k.zs⟩
theorem At.setR {W : World} {B : Nat} {x : BitVec 128} (k : At W B x) (y : BitVec 128) : At ((W.setCell ⟨B, 0, none⟩ (.int .u64 (hI y))).setCell ⟨B, 1, none⟩ (.int .u64 (lI y))) B y := by
  obtain ⟨a, b, c, d, e⟩ := k
  refine ⟨?_, ?_, ?_, ?_, ?_⟩ <;> simp [go_sem, *]
end Go.Proofs.Ytofpbommhklooaa
/-
  The sequence of the nodes on an address's way: Path and way.each.
-/
namespace Go.Proofs.Ytofpbommhklooaa
open Go.RowKit Go.Shelf
set_option linter.unusedSimpArgs false
set_option linter.unusedVariables false
attribute [local go_sem] Oper.semAt_some

/-- The node behind one on an address's way. -/
def nxtW (L : List Nd) (x : BitVec 128) (n : Int) : Int := kidV L n (bitZ x (ndAt L n).length)
def wayL (L : List Nd) (x : BitVec 128) : Nat → Int → List Int
  | 0, _ => []
  | k + 1, n => n :: wayL L x k (nxtW L x n)
/-- So many nodes, and the way ends. -/
def WayTo (L : List Nd) (x : BitVec 128) : Nat → Int → Prop
  | 0, n => n = -1
  | k + 1, n => isN L n = true ∧ WayTo L x k (nxtW L x n)
theorem way_one (L : List Nd) (x : BitVec 128) : ∀ (m m' : Nat) (y : Int), WayTo L x m y → WayTo L x m' y → m = m'
  | 0, 0, _, _, _ => rfl
  | 0, m' + 1, y, h, g => by rw [show y = -1 from h] at g; exact absurd g.1 (by simp [isN])
  | m + 1, 0, y, h, g => by rw [show y = -1 from g] at h; exact absurd h.1 (by simp [isN])
  | m + 1, m' + 1, y, h, g => by rw [way_one L x m m' _ h.2 g.2]
open Classical in
theorem muW_ex (L : List Nd) (x : BitVec 128) : ∃ mu : Value → Nat, ∀ (y : Int) (m : Nat), WayTo L x m y → mu (.int .i64 y) = m := by
  refine ⟨fun v => if h : ∃ m, ∃ y, v = .int .i64 y ∧ WayTo L x m y then Classical.choose h else 0, fun y m h => ?_⟩
  have e : ∃ m, ∃ y', (Value.int .i64 y) = .int .i64 y' ∧ WayTo L x m y' := ⟨m, y, rfl, h⟩
  dsimp only
  rw [dif_pos e]
  obtain ⟨y', e1, e2⟩ := Classical.choose_spec e
  cases e1
  exact way_one L x _ _ _ e2 h
def pthL (L : List Nd) (F : Int) (x : BitVec 128) (N : Nat) : List Int := if checkE F x F = 0 then wayL L x N 0 else []
def encI (n : Int) : Array Value := #[.int .i64 n]
theorem AtN.kw {Z : Nat → Prop} {C : Nat} {W W' : World} {b o : Nat} {x : Nd} (k : AtN W b o x) (h : KW Z C W W') (hz : Z b ∨ C ≤ b) : AtN W' b o x := ⟨kw_cell h hz k.1, kw_cell h hz k.2.1, kw_cell h hz k.2.2.1, kw_cell h hz k.2.2.2.1, kw_cell h hz k.2.2.2.2.1, kw_cell h hz k.2.2.2.2.2⟩
theorem TrN.kw {Z : Nat → Prop} {C : Nat} {W W' : World} {B : Nat} {F : Int} {g cap : Nat} {wv : Value} {L : List Nd} (k : TrN W B F g cap wv L) (h : KW Z C W W') (h1 : Z B ∨ C ≤ B) (h2 : Z g ∨ C ≤ g) : TrN W' B F g cap wv L := ⟨kw_cell h h1 k.w, kw_cell h h1 k.n, kw_cell h h1 k.o, fun j hj => (k.row j hj).kw h h2⟩
/-- The receiver's own copy. -/
def AtW8 (W : World) (N0 B : Nat) (x : BitVec 128) : Prop := W.cell? ⟨N0, 0, none⟩ = some (.pointer (some ⟨B, 0, none⟩)) ∧ W.cell? ⟨N0, 1, none⟩ = some (.int .u64 (hI x)) ∧ W.cell? ⟨N0, 2, none⟩ = some (.int .u64 (lI x))
theorem AtW8.below {W W' : World} {N0 B : Nat} {x : BitVec 128} (k : AtW8 W N0 B x) (hb : Below W.heap.size W W') : AtW8 W' N0 B x := ⟨keepc hb k.1, keepc hb k.2.1, keepc hb k.2.2⟩
theorem AtW8.kw {Z : Nat → Prop} {C : Nat} {W W' : World} {N0 B : Nat} {x : BitVec 128} (k : AtW8 W N0 B x) (h : KW Z C W W') (hz : Z N0 ∨ C ≤ N0) : AtW8 W' N0 B x := ⟨kw_cell h hz k.1, kw_cell h hz k.2.1, kw_cell h hz k.2.2⟩
set_option maxRecDepth 100000 in
set_option maxHeartbeats 8000000 in
theorem way_each (n N : Nat) (Z : Nat → Prop) (Bd B : Nat) (F : Int) (g cap : Nat) (wv : Value) (L : List Nd) (x : BitVec 128) (hR : checkE F x F = 0 → WayTo L x N 0) (w : World) (hM : TrN w B F g cap wv L) (hZB : Z B ∨ Bd ≤ B) (hZg : Z g ∨ Bd ≤ g) (ho : ∀ x ∈ L, x.ok) (hl : L.length ≤ 2147483647) :
    SeqY n Try.prog 24 #[.agg #[.pointer (some ⟨B, 0, none⟩), .int .u64 (hI x), .int .u64 (lI x)]] #[] encI (KW Z Bd) (fun ys => ys = pthL L F x N) (fun pre => pre <+: pthL L F x N) Bd w := by
  intro l J Jx W hW hB hJ hJx hY h0
  have q0 := bl1 W (.cells #[.pointer (some ⟨B, 0, none⟩), .int .u64 (hI x), .int .u64 (lI x)] 62)
  have HM0 := hidX ((hM.below hW).below q0)
  have HC0 : Hid (AtW8 (W.alloc (.cells #[.pointer (some ⟨B, 0, none⟩), .int .u64 (hI x), .int .u64 (lI x)] 62)) W.heap.size B x) := hidX (by refine ⟨?_, ?_, ?_⟩ <;> simp [go_sem])
  have HJ := hidX hJ
  have HY := hidX hY
  have HJ0 := hidX (hJ [] _ _ none h0 (below_grownX q0) (fun r e => by cases e))
  have HB : Hid (Bd ≤ W.heap.size) := hidX hB
  have KC := fun w => pcheck_any F x F w
  have HR0 := hidX hR
  have HPt : Hid ((checkE F x F = 0 → pthL L F x N = wayL L x N 0) ∧ (¬ checkE F x F = 0 → pthL L F x N = [])) := hidX ⟨fun h => by rw [pthL, if_pos h], fun h => by rw [pthL, if_neg h]⟩
  have HO : Hid ((∀ x ∈ L, x.ok) ∧ L.length ≤ 2147483647) := hidX ⟨ho, hl⟩
  have HZ : Hid ((Z B ∨ Bd ≤ B) ∧ (Z g ∨ Bd ≤ g)) := hidX ⟨hZB, hZg⟩
  obtain ⟨c0, c1, c2⟩ := HC0.out
  clear hJ hJx hY h0 hM q0 hB hR ho hl hZB hZg
  refine callsIn_of_wp Try.func24 rfl trivial ?_ rfl
  simp only [Try.ntmps24, List.size_toArray, List.length_cons, List.length_nil, Nat.reduceAdd, Nat.reduceSub, Array.replicate_succ, Array.replicate_zero, List.push_toArray, List.append_toArray, List.nil_append, List.cons_append, List.append_nil]
  gi_wp2_with fail
  revert HM0 HC0 HJ0
  generalize W.alloc (.cells #[.pointer (some ⟨B, 0, none⟩), .int .u64 (hI x), .int .u64 (lI x)] 62) = V1
  intro HM0 HC0 HJ0
  revert KC HR0 HPt
  generalize checkE F x F = z
  intro KC HR0 HPt
  clear c0 c1 c2
  have HD : Hid (∀ X, Below V1.heap.size V1 X → TrN X B F g cap wv L ∧ AtW8 X W.heap.size B x) := hidX (fun X hb => ⟨HM0.out.below hb, HC0.out.below hb⟩)
  refine wpIn_wide.2 ?_
  refine qw_region (C := fun X => Below V1.heap.size V1 X) (by kernel_rfl) (by kernel_rfl) (below_drewN (Below.refl _ _) 1) ?_
  refine qw_run (v := .pointer (some ⟨B, 0, none⟩)) (by rfl) ?_ ?_
  · (intro w1 hC; obtain ⟨⟨t0, t1, t2, -⟩, ⟨c0, c1, c2⟩⟩ := HD.out w1 hC; go_simp; first | done | (simp; done) | (simp [*]; done) | omega | (simp; omega) | (rw [IntKind.wrap_i64]; omega) | (intro hx; omega) | rfl)
  simp only [Act.put, List.setIfInBounds_toArray, List.set_cons_zero, List.set_cons_succ]
  refine qw_run (v := .pointer (some ⟨B, 0, none⟩)) (by rfl) ?_ ?_
  · (intro w1 hC; obtain ⟨⟨t0, t1, t2, -⟩, ⟨c0, c1, c2⟩⟩ := HD.out w1 hC; go_simp; first | done | (simp; done) | (simp [*]; done) | omega | (simp; omega) | (rw [IntKind.wrap_i64]; omega) | (intro hx; omega) | rfl)
  simp only [Act.put, List.setIfInBounds_toArray, List.set_cons_zero, List.set_cons_succ]
  refine qw_run (v := .pointer (some ⟨B, 0, none⟩)) (by rfl) ?_ ?_
  · (intro w1 hC; obtain ⟨⟨t0, t1, t2, -⟩, ⟨c0, c1, c2⟩⟩ := HD.out w1 hC; go_simp; first | done | (simp; done) | (simp [*]; done) | omega | (simp; omega) | (rw [IntKind.wrap_i64]; omega) | (intro hx; omega) | rfl)
  simp only [Act.put, List.setIfInBounds_toArray, List.set_cons_zero, List.set_cons_succ]
  refine qw_run (v := .int .i64 F) (by rfl) ?_ ?_
  · (intro w1 hC; obtain ⟨⟨t0, t1, t2, -⟩, ⟨c0, c1, c2⟩⟩ := HD.out w1 hC; go_simp; first | done | (simp; done) | (simp [*]; done) | omega | (simp; omega) | (rw [IntKind.wrap_i64]; omega) | (intro hx; omega) | rfl)
  simp only [Act.put, List.setIfInBounds_toArray, List.set_cons_zero, List.set_cons_succ]
  refine qw_run (v := .pointer (some ⟨W.heap.size, 1, none⟩)) (by rfl) ?_ ?_
  · (intro w1 hC; obtain ⟨⟨t0, t1, t2, -⟩, ⟨c0, c1, c2⟩⟩ := HD.out w1 hC; go_simp; first | done | (simp; done) | (simp [*]; done) | omega | (simp; omega) | (rw [IntKind.wrap_i64]; omega) | (intro hx; omega) | rfl)
  simp only [Act.put, List.setIfInBounds_toArray, List.set_cons_zero, List.set_cons_succ]
  refine qw_run (v := .agg #[.int .u64 (hI x), .int .u64 (lI x)]) (by rfl) ?_ ?_
  · (intro w1 hC; obtain ⟨⟨t0, t1, t2, -⟩, ⟨c0, c1, c2⟩⟩ := HD.out w1 hC; go_simp; first | done | (simp; done) | (simp [*]; done) | omega | (simp; omega) | (rw [IntKind.wrap_i64]; omega) | (intro hx; omega) | rfl)
  simp only [Act.put, List.setIfInBounds_toArray, List.set_cons_zero, List.set_cons_succ]
  refine qw_run (v := .pointer (some ⟨B, 0, none⟩)) (by rfl) ?_ ?_
  · (intro w1 hC; obtain ⟨⟨t0, t1, t2, -⟩, ⟨c0, c1, c2⟩⟩ := HD.out w1 hC; go_simp; first | done | (simp; done) | (simp [*]; done) | omega | (simp; omega) | (rw [IntKind.wrap_i64]; omega) | (intro hx; omega) | rfl)
  simp only [Act.put, List.setIfInBounds_toArray, List.set_cons_zero, List.set_cons_succ]
  refine qw_run (v := .pointer (some ⟨B, 0, none⟩)) (by rfl) ?_ ?_
  · (intro w1 hC; obtain ⟨⟨t0, t1, t2, -⟩, ⟨c0, c1, c2⟩⟩ := HD.out w1 hC; go_simp; first | done | (simp; done) | (simp [*]; done) | omega | (simp; omega) | (rw [IntKind.wrap_i64]; omega) | (intro hx; omega) | rfl)
  simp only [Act.put, List.setIfInBounds_toArray, List.set_cons_zero, List.set_cons_succ]
  refine qw_run (v := .pointer (some ⟨B, 0, none⟩)) (by rfl) ?_ ?_
  · (intro w1 hC; obtain ⟨⟨t0, t1, t2, -⟩, ⟨c0, c1, c2⟩⟩ := HD.out w1 hC; go_simp; first | done | (simp; done) | (simp [*]; done) | omega | (simp; omega) | (rw [IntKind.wrap_i64]; omega) | (intro hx; omega) | rfl)
  simp only [Act.put, List.setIfInBounds_toArray, List.set_cons_zero, List.set_cons_succ]
  refine qw_run (v := .int .i64 F) (by rfl) ?_ ?_
  · (intro w1 hC; obtain ⟨⟨t0, t1, t2, -⟩, ⟨c0, c1, c2⟩⟩ := HD.out w1 hC; go_simp; first | done | (simp; done) | (simp [*]; done) | omega | (simp; omega) | (rw [IntKind.wrap_i64]; omega) | (intro hx; omega) | rfl)
  simp only [Act.put, List.setIfInBounds_toArray, List.set_cons_zero, List.set_cons_succ]
  refine qw_run (v := .agg #[.int .u64 (hI x), .int .u64 (lI x), .int .i64 F]) (by rfl) ?_ ?_
  · (intro w1 hC; obtain ⟨⟨t0, t1, t2, -⟩, ⟨c0, c1, c2⟩⟩ := HD.out w1 hC; go_simp; first | done | (simp; done) | (simp [*]; done) | omega | (simp; omega) | (rw [IntKind.wrap_i64]; omega) | (intro hx; omega) | rfl)
  simp only [Act.put, List.setIfInBounds_toArray, List.set_cons_zero, List.set_cons_succ]
  refine qw_call (v := .int .i64 z) (f := 35) (args := #[.int .i64 F, .agg #[.int .u64 (hI x), .int .u64 (lI x), .int .i64 F]]) (by rfl) ?_ ?_ ?_
  · (intro w1 hC; clear hC; go_simp)
  · exact fun w1 hC => (KC w1).mono fun e w' ⟨he, hb⟩ => ⟨he, keepb hb hC⟩
  simp only [Act.put, List.setIfInBounds_toArray, List.set_cons_zero, List.set_cons_succ]
  refine qw_run (v := .bool (z != 0)) (by rfl) ?_ ?_
  · (intro w1 hC; obtain ⟨⟨t0, t1, t2, -⟩, ⟨c0, c1, c2⟩⟩ := HD.out w1 hC; go_simp; first | done | (simp; done) | (simp [*]; done) | omega | (simp; omega) | (rw [IntKind.wrap_i64]; omega) | (intro hx; omega) | rfl)
  simp only [Act.put, List.setIfInBounds_toArray, List.set_cons_zero, List.set_cons_succ]
  refine qw_nil ?_
  intro X2 hC2
  have HM2 := hidX (HM0.out.below hC2)
  have HC2 := hidX (HC0.out.below hC2)
  have HJ2 := hidX (HJ.out [] _ _ none HJ0.out (below_grownX hC2) (fun r e => by cases e))
  clear hC2 HD HM0 HC0 HJ0 KC
  by_cases c : z = 0
  · subst c
    rw [show ((0 : Int) != 0) = false from rfl]
    have HW0 := hidX (HR0.out rfl)
    have HP0 := hidX (HPt.out.1 rfl)
    obtain ⟨mu, hmu⟩ := muW_ex L x
    have HMu := hidX hmu
    clear hmu HR0 HPt
    gi_wp2_with fail
    gi_loopw [5] (fun p wr => ∃ (m : Nat) (y : Int) (pre : List Int), p = .int .i64 y ∧ Hid (pre ++ wayL L x m y = wayL L x N 0) ∧ Hid (WayTo L x m y) ∧ Hid (J pre wr) ∧ Hid (TrN wr B F g cap wv L) ∧ Hid (AtW8 wr W.heap.size B x)) (fun p wr => mu p)
    case atStart => exact ⟨N, 0, [], rfl, hidX rfl, HW0, HJ2, HM2, HC2⟩
    case round =>
      clear HJ2 HM2 HC2 HW0
      obtain ⟨m, y, pre, rfl, HP, HWy, HJw, HMw, HCw⟩ := hrel
      cases m with
      | zero =>
        obtain rfl : y = -1 := HWy.out
        have HE : Hid (pre = pthL L F x N) := hidX (by rw [HP0.out, ← HP.out, wayL, List.append_nil])
        clear HP HWy HMw HCw HMu
        gi_wp2
        refine ⟨fun f h => (by cases h), ?_⟩
        gi_wp2
        go_end0
        exact ⟨⟨_, rfl⟩, .inl ⟨_, HE.out, HJw.out⟩⟩
      | succ m =>
        have hm0 := HMu.out y (m + 1) HWy.out
        have HM0 := hidX hm0
        obtain ⟨hy1, hy2⟩ := HWy.out
        have hyr : 0 ≤ y ∧ y < L.length := by unfold isN at hy1; simpa using hy1
        obtain ⟨k, rfl⟩ : ∃ k : Nat, y = k := ⟨y.toNat, by omega⟩
        have hk : k < L.length := by omega
        have HW2 := hidX hy2
        have HPx : Hid (pre ++ [(k : Int)] <+: pthL L F x N) := hidX (by rw [HP0.out, ← HP.out, wayL]; exact ⟨wayL L x m (nxtW L x k), by simp⟩)
        have HP2 : Hid ((pre ++ [(k : Int)]) ++ wayL L x m (nxtW L x k) = wayL L x N 0) := hidX (by have := HP.out; rw [wayL] at this; simpa using this)
        have hkn : ((k : Int) != -1) = true := by simp
        clear hm0 hy1 hy2 hyr HWy HP
        obtain ⟨fn, tmps, assign, body, hy, hR⟩ := HY.out pre (k : Int) wr HJw.out HPx.out
        dsimp only [encI] at hy
        gi_wp2
        refine ⟨fun q => (by cases q), hR.mono ?_⟩
        rintro e W3 (⟨rfl, hJ3, hk3⟩ | ⟨rfl, hx3, -⟩)
        · have HM3 := hidX (HMw.out.kw hk3 HZ.out.1 HZ.out.2)
          have HC3 := hidX (HCw.out.kw hk3 (.inr HB.out))
          have HJ3 := hidX hJ3
          have KB := fun w => bit_any x (ndAt L k).length w
          have KK := fun w h => tkid_any B F g cap wv L k (bitZ x (ndAt L k).length) w h HO.out.1 HO.out.2
          have ok := ndAt_ok HO.out.1 k
          have hN : kidV L k (bitZ x (ndAt L k).length) = nxtW L x k := rfl
          rw [hN] at KK
          have HD : Hid (∀ X, Below W3.heap.size W3 X → TrN X B F g cap wv L ∧ AtW8 X W.heap.size B x ∧ AtN X g (k * 6) (ndAt L k)) := hidX (fun X hb => ⟨HM3.out.below hb, HC3.out.below hb, by rw [ndAt_in k hk]; exact (HM3.out.row k hk).below hb⟩)
          clear hJ3 hk3 hy hR HMw HCw HJw hN
          revert KB KK ok HD HW2 HP2
          generalize nxtW L x k = y2
          generalize ndAt L k = nd
          generalize bitZ x nd.length = bt
          intro HW2 HP2 KB KK ok HD
          have hwl : IntKind.i64.wrap nd.length = nd.length := by unfold Nd.ok at ok; rw [IntKind.wrap_i64]; omega
          clear ok
          gi_wp2_with fail
          refine wpIn_wide.2 ?_
          refine qw_region (C := fun X => Below W3.heap.size W3 X) (by kernel_rfl) (by kernel_rfl) (below_drewN (Below.refl _ _) 1) ?_
          refine qw_run (v := .pointer (some ⟨B, 0, none⟩)) (by rfl) ?_ ?_
          · (intro w1 hC; obtain ⟨⟨t0, t1, t2, -⟩, ⟨c0, c1, c2⟩, ⟨-, -, -, -, d4, -⟩⟩ := HD.out w1 hC; go_simp; first | done | (simp; done) | (simp [*]; done) | omega | (simp; omega) | (rw [IntKind.wrap_i64]; omega) | (intro hx; omega) | rfl)
          simp only [Act.put, List.setIfInBounds_toArray, List.set_cons_zero, List.set_cons_succ]
          refine qw_run (v := .int .i64 (k : Int)) (by rfl) ?_ ?_
          · (intro w1 hC; obtain ⟨⟨t0, t1, t2, -⟩, ⟨c0, c1, c2⟩, ⟨-, -, -, -, d4, -⟩⟩ := HD.out w1 hC; go_simp; first | done | (simp; done) | (simp [*]; done) | omega | (simp; omega) | (rw [IntKind.wrap_i64]; omega) | (intro hx; omega) | rfl)
          simp only [Act.put, List.setIfInBounds_toArray, List.set_cons_zero, List.set_cons_succ]
          refine qw_run (v := .pointer (some ⟨W.heap.size, 1, none⟩)) (by rfl) ?_ ?_
          · (intro w1 hC; obtain ⟨⟨t0, t1, t2, -⟩, ⟨c0, c1, c2⟩, ⟨-, -, -, -, d4, -⟩⟩ := HD.out w1 hC; go_simp; first | done | (simp; done) | (simp [*]; done) | omega | (simp; omega) | (rw [IntKind.wrap_i64]; omega) | (intro hx; omega) | rfl)
          simp only [Act.put, List.setIfInBounds_toArray, List.set_cons_zero, List.set_cons_succ]
          refine qw_run (v := .agg #[.int .u64 (hI x), .int .u64 (lI x)]) (by rfl) ?_ ?_
          · (intro w1 hC; obtain ⟨⟨t0, t1, t2, -⟩, ⟨c0, c1, c2⟩, ⟨-, -, -, -, d4, -⟩⟩ := HD.out w1 hC; go_simp; first | done | (simp; done) | (simp [*]; done) | omega | (simp; omega) | (rw [IntKind.wrap_i64]; omega) | (intro hx; omega) | rfl)
          simp only [Act.put, List.setIfInBounds_toArray, List.set_cons_zero, List.set_cons_succ]
          refine qw_run (v := .pointer (some ⟨B, 0, none⟩)) (by rfl) ?_ ?_
          · (intro w1 hC; obtain ⟨⟨t0, t1, t2, -⟩, ⟨c0, c1, c2⟩, ⟨-, -, -, -, d4, -⟩⟩ := HD.out w1 hC; go_simp; first | done | (simp; done) | (simp [*]; done) | omega | (simp; omega) | (rw [IntKind.wrap_i64]; omega) | (intro hx; omega) | rfl)
          simp only [Act.put, List.setIfInBounds_toArray, List.set_cons_zero, List.set_cons_succ]
          refine qw_run (v := .pointer (some ⟨B, 0, none⟩)) (by rfl) ?_ ?_
          · (intro w1 hC; obtain ⟨⟨t0, t1, t2, -⟩, ⟨c0, c1, c2⟩, ⟨-, -, -, -, d4, -⟩⟩ := HD.out w1 hC; go_simp; first | done | (simp; done) | (simp [*]; done) | omega | (simp; omega) | (rw [IntKind.wrap_i64]; omega) | (intro hx; omega) | rfl)
          simp only [Act.put, List.setIfInBounds_toArray, List.set_cons_zero, List.set_cons_succ]
          refine qw_run (v := .pointer (some ⟨B, 1, none⟩)) (by rfl) ?_ ?_
          · (intro w1 hC; obtain ⟨⟨t0, t1, t2, -⟩, ⟨c0, c1, c2⟩, ⟨-, -, -, -, d4, -⟩⟩ := HD.out w1 hC; go_simp; first | done | (simp; done) | (simp [*]; done) | omega | (simp; omega) | (rw [IntKind.wrap_i64]; omega) | (intro hx; omega) | rfl)
          simp only [Act.put, List.setIfInBounds_toArray, List.set_cons_zero, List.set_cons_succ]
          refine qw_run (v := .slice (some ⟨g, 0, none⟩) L.length cap) (by rfl) ?_ ?_
          · (intro w1 hC; obtain ⟨⟨t0, t1, t2, -⟩, ⟨c0, c1, c2⟩, ⟨-, -, -, -, d4, -⟩⟩ := HD.out w1 hC; go_simp; first | done | (simp; done) | (simp [*]; done) | omega | (simp; omega) | (rw [IntKind.wrap_i64]; omega) | (intro hx; omega) | rfl)
          simp only [Act.put, List.setIfInBounds_toArray, List.set_cons_zero, List.set_cons_succ]
          refine qw_run (v := .int .i64 (k : Int)) (by rfl) ?_ ?_
          · (intro w1 hC; obtain ⟨⟨t0, t1, t2, -⟩, ⟨c0, c1, c2⟩, ⟨-, -, -, -, d4, -⟩⟩ := HD.out w1 hC; go_simp; first | done | (simp; done) | (simp [*]; done) | omega | (simp; omega) | (rw [IntKind.wrap_i64]; omega) | (intro hx; omega) | rfl)
          simp only [Act.put, List.setIfInBounds_toArray, List.set_cons_zero, List.set_cons_succ]
          refine qw_run (v := .pointer (some ⟨g, k * 6, none⟩)) (by rfl) ?_ ?_
          · (intro w1 hC; obtain ⟨⟨t0, t1, t2, -⟩, ⟨c0, c1, c2⟩, ⟨-, -, -, -, d4, -⟩⟩ := HD.out w1 hC; go_simp; first | done | (simp; done) | (simp [*]; done) | omega | (simp; omega) | (rw [IntKind.wrap_i64]; omega) | (intro hx; omega) | rfl)
          simp only [Act.put, List.setIfInBounds_toArray, List.set_cons_zero, List.set_cons_succ]
          refine qw_run (v := .pointer (some ⟨g, k * 6 + 4, none⟩)) (by rfl) ?_ ?_
          · (intro w1 hC; obtain ⟨⟨t0, t1, t2, -⟩, ⟨c0, c1, c2⟩, ⟨-, -, -, -, d4, -⟩⟩ := HD.out w1 hC; go_simp; first | done | (simp; done) | (simp [*]; done) | omega | (simp; omega) | (rw [IntKind.wrap_i64]; omega) | (intro hx; omega) | rfl)
          simp only [Act.put, List.setIfInBounds_toArray, List.set_cons_zero, List.set_cons_succ]
          refine qw_run (v := .int .u8 nd.length) (by rfl) ?_ ?_
          · (intro w1 hC; obtain ⟨⟨t0, t1, t2, -⟩, ⟨c0, c1, c2⟩, ⟨-, -, -, -, d4, -⟩⟩ := HD.out w1 hC; go_simp; first | done | (simp; done) | (simp [*]; done) | omega | (simp; omega) | (rw [IntKind.wrap_i64]; omega) | (intro hx; omega) | rfl)
          simp only [Act.put, List.setIfInBounds_toArray, List.set_cons_zero, List.set_cons_succ]
          refine qw_run (v := .int .i64 nd.length) (by rfl) ?_ ?_
          · (intro w1 hC; obtain ⟨⟨t0, t1, t2, -⟩, ⟨c0, c1, c2⟩, ⟨-, -, -, -, d4, -⟩⟩ := HD.out w1 hC; go_simp; first | done | (simp; done) | (simp [*]; done) | omega | (simp; omega) | (rw [IntKind.wrap_i64]; omega) | (intro hx; omega) | rfl)
          simp only [Act.put, List.setIfInBounds_toArray, List.set_cons_zero, List.set_cons_succ]
          refine qw_call (v := .int .i64 bt) (f := 39) (args := #[.agg #[.int .u64 (hI x), .int .u64 (lI x)], .int .i64 nd.length]) (by rfl) ?_ ?_ ?_
          · (intro w1 hC; clear hC; go_simp)
          · exact fun w1 hC => (KB w1).mono fun e w' ⟨he, hb⟩ => ⟨he, keepb hb hC⟩
          simp only [Act.put, List.setIfInBounds_toArray, List.set_cons_zero, List.set_cons_succ]
          refine qw_call (v := .int .i64 y2) (f := 20) (args := #[.pointer (some ⟨B, 0, none⟩), .int .i64 (k : Int), .int .i64 bt]) (by rfl) ?_ ?_ ?_
          · (intro w1 hC; clear hC; go_simp)
          · exact fun w1 hC => (KK w1 (HD.out w1 hC).1).mono fun e w' ⟨he, hb⟩ => ⟨he, keepb hb hC⟩
          simp only [Act.put, List.setIfInBounds_toArray, List.set_cons_zero, List.set_cons_succ]
          refine qw_run (v := .int .i64 y2) (by rfl) ?_ ?_
          · (intro w1 hC; obtain ⟨⟨t0, t1, t2, -⟩, ⟨c0, c1, c2⟩, ⟨-, -, -, -, d4, -⟩⟩ := HD.out w1 hC; go_simp; first | done | (simp; done) | (simp [*]; done) | omega | (simp; omega) | (rw [IntKind.wrap_i64]; omega) | (intro hx; omega) | rfl)
          simp only [Act.put, List.setIfInBounds_toArray, List.set_cons_zero, List.set_cons_succ]
          refine qw_nil ?_
          intro X4 hC4
          have HM4 := hidX (HM3.out.below hC4)
          have HC4 := hidX (HC3.out.below hC4)
          have HJ4 := hidX (HJ.out _ _ _ none HJ3.out (below_grownX hC4) (fun r e => by cases e))
          clear hC4 HD HM3 HC3 HJ3 KB KK hwl
          gi_wp2
          go_roundw
          case rel => exact ⟨m, y2, _, rfl, HP2, HW2, HJ4, HM4, HC4⟩
          case measure =>
            have e1 := HMu.out y2 m HW2.out
            have e2 := HM0.out
            first | (simp only [Array.getD_eq_getD_getElem?, List.getElem?_toArray, List.getElem?_cons_succ, List.getElem?_cons_zero, Option.getD_some]; omega) | (simp at e1 e2 ⊢; omega)
        · have HX3 := hidX hx3
          clear hx3 hy hR HMw HCw HJw HP2 HW2 HM0
          gi_wp2
          go_end0
          exact ⟨⟨_, rfl⟩, .inr ⟨_, HPx.out, HX3.out⟩⟩
  · have d1 : (z != 0) = true := by simpa using c
    have HE := hidX (HPt.out.2 c)
    clear c HPt HR0
    gi_wp2
    exact bodyPost_ret (results_none rfl _ _ _) rfl ⟨⟨_, rfl⟩, .inl ⟨[], HE.out.symm, HJ2.out⟩⟩
end Go.Proofs.Ytofpbommhklooaa
/-
  Variables of one cell, and what keeps them.
-/
namespace Go.Proofs.Ytofpbommhklooaa
open Go.RowKit Go.Shelf
set_option linter.unusedSimpArgs false
set_option linter.unusedVariables false

/-- A variable of one cell. -/
def Cl1 (W : World) (B : Nat) (v : Value) : Prop := W.cell? ⟨B, 0, none⟩ = some v ∧ W.frozen? ⟨B, 0, none⟩ = false
theorem Cl1.below {W W' : World} {B : Nat} {v : Value} (k : Cl1 W B v) (hb : Below W.heap.size W W') : Cl1 W' B v := ⟨keepc hb k.1, keepf hb k.1 k.2⟩
theorem Cl1.heap {W W' : World} {B : Nat} {v : Value} (k : Cl1 W B v) (e : W'.heap[B]? = W.heap[B]?) : Cl1 W' B v := ⟨(World.cell?_of_block (a := ⟨B, 0, none⟩) e).trans k.1, (World.frozen?_of_block (a := ⟨B, 0, none⟩) e).trans k.2⟩
theorem cl1_new (W : World) (B : Nat) (v : Value) (t : TypeId) (h : B = W.heap.size) : Cl1 (W.alloc (.cells #[v] t)) B v := by
  subst h
  refine ⟨?_, ?_⟩ <;> simp [go_sem]
theorem Cl1.set {W : World} {B : Nat} {v : Value} (k : Cl1 W B v) (u : Value) : Cl1 (W.setCell ⟨B, 0, none⟩ u) B u := ⟨World.cell?_setCell_same' _ _ _ (by rw [k.1]; rfl), by rw [World.frozen?_setCell]; exact k.2⟩
theorem Cl1.lt {W : World} {B : Nat} {v : Value} (k : Cl1 W B v) : B < W.heap.size := cell_in k.1
theorem hSet6 {W : World} {b o : Nat} (u : Value) {k : Nat} (h : ¬ k = b) : (W.setCell ⟨b, o, none⟩ u).heap[k]? = W.heap[k]? := Below.heap_setCell W ⟨b, o, none⟩ u k h
theorem At.heap6 {W W' : World} {B : Nat} {x : BitVec 128} (k : At W B x) (e : W'.heap[B]? = W.heap[B]?) (hs : W.heap.size ≤ W'.heap.size) : At W' B x := ⟨(World.cell?_of_block (a := ⟨B, 0, none⟩) e).trans k.1, (World.cell?_of_block (a := ⟨B, 1, none⟩) e).trans k.2.1, (World.frozen?_of_block (a := ⟨B, 0, none⟩) e).trans k.2.2.1, (World.frozen?_of_block (a := ⟨B, 1, none⟩) e).trans k.2.2.2.1, Nat.lt_of_lt_of_le k.2.2.2.2 hs⟩
theorem AtP.heap6 {W W' : World} {B : Nat} {x : BitVec 128} {n : Int} (k : AtP W B x n) (e : W'.heap[B]? = W.heap[B]?) : AtP W' B x n := ⟨(World.cell?_of_block (a := ⟨B, 0, none⟩) e).trans k.1, (World.cell?_of_block (a := ⟨B, 1, none⟩) e).trans k.2.1, (World.cell?_of_block (a := ⟨B, 2, none⟩) e).trans k.2.2.1, (World.frozen?_of_block (a := ⟨B, 0, none⟩) e).trans k.2.2.2.1, (World.frozen?_of_block (a := ⟨B, 1, none⟩) e).trans k.2.2.2.2.1, (World.frozen?_of_block (a := ⟨B, 2, none⟩) e).trans k.2.2.2.2.2⟩
theorem Cl1.kept {W W' : World} {B : Nat} {v : Value} (k : Cl1 W B v) {row : Option Nat} (hg : W.grownBy W' row) (hr : ∀ r, row = some r → ∃ o : Obj, W.heap[r]? = some o ∧ o.isCells = false) : Cl1 W' B v := ⟨cell_kept k.1 hg hr, (frozen_kept k.1 hg hr).trans k.2⟩
theorem At.kept6 {W W' : World} {B : Nat} {x : BitVec 128} (k : At W B x) {row : Option Nat} (hg : W.grownBy W' row) (hr : ∀ r, row = some r → ∃ o : Obj, W.heap[r]? = some o ∧ o.isCells = false) : At W' B x := ⟨cell_kept k.1 hg hr, cell_kept k.2.1 hg hr, (frozen_kept k.1 hg hr).trans k.2.2.1, (frozen_kept k.2.1 hg hr).trans k.2.2.2.1, Nat.lt_of_lt_of_le k.2.2.2.2 hg.size⟩
theorem AtP.kept6 {W W' : World} {B : Nat} {x : BitVec 128} {n : Int} (k : AtP W B x n) {row : Option Nat} (hg : W.grownBy W' row) (hr : ∀ r, row = some r → ∃ o : Obj, W.heap[r]? = some o ∧ o.isCells = false) : AtP W' B x n := ⟨cell_kept k.1 hg hr, cell_kept k.2.1 hg hr, cell_kept k.2.2.1 hg hr, (frozen_kept k.1 hg hr).trans k.2.2.2.1, (frozen_kept k.2.1 hg hr).trans k.2.2.2.2.1, (frozen_kept k.2.2.1 hg hr).trans k.2.2.2.2.2⟩
theorem kw_set {Z : Nat → Prop} {B b o : Nat} (hZ : ¬ Z b) (hB : b < B) (W : World) (u : Value) : KW Z B W (W.setCell ⟨b, o, none⟩ u) := ⟨by simp, fun z x hz hx => by
  have hne : ¬ z = b := by
    rintro rfl
    rcases hx with q | q
    · exact hZ q
    · omega
  rw [hSet6 u hne]; exact hz⟩
theorem kw_keeps {Z : Nat → Prop} {B C : Nat} {W W' : World} (h : KW Z B W W') (hc : ∀ z, C ≤ z → Z z) : KeepsFrom C W W' := ⟨h.1, fun k o h1 h2 _ => h.2 k o h2 (.inl (hc k h1))⟩
end Go.Proofs.Ytofpbommhklooaa
