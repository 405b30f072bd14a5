/-
  Part 28 of the proof: 4 texts, one behind the other.
-/
import Derived.Test.YtmeaikmmhgmgnaaGreatPart26
import Derived.Test.YtmeaikmmhgmgnaaGreatPart27
namespace Go.Proofs.YtmeaikmmhgmgnaaGreat
open Go.RowKit
set_option linter.unusedSimpArgs false
set_option linter.unusedVariables false

theorem At.wset {w : World} {B : Nat} {y : BitVec 128} (h : At w B y) (z : BitVec 128) (he : hI y = hI z) : At (w.setCell ⟨B, 1, none⟩ (.int .u64 (lI z))) B z := by
  obtain ⟨h0, h1, h2, h3, h4⟩ := h
  refine ⟨?_, ?_, ?_, ?_, ?_⟩ <;> simp [go_sem, *]
theorem At.wother {w : World} {B C : Nat} {x : BitVec 128} (h : At w B x) (hn : ¬ C = B) (o : Nat) (v : Value) : At (w.setCell ⟨C, o, none⟩ v) B x := by
  obtain ⟨h0, h1, h2, h3, h4⟩ := h
  have hn' : ¬ B = C := fun e => hn e.symm
  refine ⟨?_, ?_, ?_, ?_, ?_⟩ <;> simp [go_sem, *]
theorem cell_wother {w : World} {b o C p : Nat} {u : Value} (h : w.cell? ⟨b, o, none⟩ = some u) (hn : ¬ C = b) (v : Value) : (w.setCell ⟨C, p, none⟩ v).cell? ⟨b, o, none⟩ = some u := by
  have hn' : ¬ b = C := fun e => hn e.symm
  simp [go_sem, *]

set_option maxHeartbeats 8000000 in
set_option maxRecDepth 20000 in
theorem rparse_sixA (t : ByteArray) (w : World) (hl : t.size ≤ 60) (hg : gapV t < 0) :
    Calls Tryz.prog 76 #[.int .i64 128, .string t] w fun e w' => e = .returned (.tuple #[.agg #[.int .u64 (hI (outV (rsA t))), .int .u64 (lI (outV (rsA t)))], .int .i64 (outE (rsA t))]) ∧ Below w.heap.size w w' := by
  have KI := fun w => isFamily_any 128 w
  have hl2 : ¬ (60 : Int) < (t.size : Int) := by omega
  have KG := fun w => gap_any t w (by omega)
  have KR := fun w => groups_any t true w (by omega)
  have HBG : Hid (∀ xs, gsO t true = some xs → ∀ x ∈ xs, 0 ≤ x ∧ x ≤ 65535) := gsO_bd t true
  have HRS : Hid (rsA t = match gsO t true with | some m => if m.length = 8 then some m else none | none => none) := rfl
  generalize gapV t = a at *
  go_enter Tryz.func76, Tryz.ntmps76
  go_wp2_with fail
  refine (KI _).mono ?_
  rintro e w1 ⟨rfl, hw1⟩
  rw [hw1]; clear hw1 KI
  go_wp2_with fail
  refine (KG _).mono ?_
  rintro e w1 ⟨rfl, hw1⟩
  rw [hw1]; clear hw1 KG
  go_wp2_with fail
  refine (KR _).mono ?_
  rintro e w2 ⟨hor, hb2⟩
  clear KR
  have hZ := (at_new w w.heap.size 0#128 35 rfl).below hb2
  have kB := keepb hb2 (bl1 w _)
  clear hb2
  rcases hor with ⟨hno, rfl⟩ | ⟨L, ao, cp, hso, rfl, hown⟩
  · have HF : Hid (rsA t = none) := by show _ = _; rw [HRS.out, hno]
    obtain ⟨z0, z1, z2, z3, z4⟩ := hZ
    go_wp2
    exact bodyPost_ret (v := .tuple #[.agg #[.int .u64 0, .int .u64 0], .int .i64 12]) (by simp [results, Tryz.results76, go_sem, *]) rfl ⟨by rw [HF.out]; show _ = Ending.returned (.tuple #[.agg #[.int .u64 (hI 0#128), .int .u64 (lI 0#128)], .int .i64 12]); rw [hI_zero, lI_zero], bset2 kB (Nat.le_refl _) _ _⟩
  · by_cases h8 : L.length = 8
    · have HF : Hid (rsA t = some L) := by show _ = _; rw [HRS.out, hso]; exact if_pos h8
      rw [h8] at hown
      obtain ⟨g, c2, hv, hgl, hgr⟩ := hown.form (by omega)
      have hv2 : ao = some ⟨g, 0, none⟩ ∧ cp = c2 := by
        injection hv with e1 e2 e3; exact ⟨e1, e3⟩
      obtain ⟨rfl, rfl⟩ := hv2
      have hrow : Hid (∀ j, j < 8 → w2.cell? ⟨g, j, none⟩ = some (.int .i64 (L.getD j 0))) := fun j hj => row_int hown h8.symm j hj
      have HB : Hid (∀ j, j < 8 → 0 ≤ L.getD j 0 ∧ L.getD j 0 ≤ 65535) := fun j hj => by
        have := HBG.out L hso (L.getD j 0) (by rw [List.getD_eq_getElem?_getD, List.getElem?_eq_getElem (by omega)]; exact List.getElem_mem _)
        exact this
      have hgl' := (hown.lt g rfl).2
      have HXX : Hid (outV (rsA t) = gW L 8 ∧ outE (rsA t) = 0) := by show _ ∧ _; rw [HF.out]; exact ⟨rfl, rfl⟩
      clear HF
      rw [h8]
      have hgB : w.heap.size + 1 ≤ g := by simpa using (hown.lt g rfl).1
      clear HBG HRS hown hv hgl hgr hso
      go_wp2
      go_loopw [17] (fun q wr => ∃ k : Nat, k ≤ 8 ∧ q = .int .i64 k ∧ At wr w2.heap.size (gW L k) ∧ Hid (∀ j, j < 8 → wr.cell? ⟨g, j, none⟩ = some (.int .i64 (L.getD j 0))) ∧ At wr w.heap.size 0#128 ∧ Below w.heap.size w wr) (fun q _ => 8 - (intOf q).toNat)
      case atStart =>
        refine ⟨0, by omega, rfl, ?_, fun j hj => keepc (bl1 _ _) (hrow.out j hj), hZ.below (bl1 _ _), kB.alloc kB.size _⟩
        show At _ _ 0#128
        refine ⟨?_, ?_, ?_, ?_, ?_⟩ <;> simp [go_sem, hI_zero, lI_zero]
      case round =>
        have hZW := hZ.2.2.2.2
        clear hrow hZ kB
        obtain ⟨k, hk, rfl, X, hrow, hZ, kB⟩ := hrel
        by_cases hlt : k < 8
        · have hk2 : (k : Int) < 8 := by omega
          obtain ⟨v0, v1⟩ := HB.out k hlt
          have hc := hrow.out k hlt
          have KS : ∀ w, Calls Tryz.prog 97 #[.agg #[.int .u64 (hI (gW L k)), .int .u64 (lI (gW L k))], .int .i64 16] w fun e w' => e = .returned (.agg #[.int .u64 (hI (gW L k <<< 16)), .int .u64 (lI (gW L k <<< 16))]) ∧ Below w.heap.size w w' := fun w => rshl_any (gW L k) 16 w
          have HW : Hid (gW L (k + 1) = (gW L k <<< 16) ||| mkW 0 (L.getD k 0)) := rfl
          obtain ⟨o1, o2⟩ := orLo (gW L k <<< 16) (L.getD k 0) v0 v1
          rw [← HW.out] at o1 o2
          obtain ⟨z, HZ⟩ : ∃ z, Hid (gW L (k + 1) = z) := ⟨_, rfl⟩
          rw [HZ.out] at o1 o2
          generalize gW L k <<< 16 = y at *
          generalize gW L k = x at *
          generalize L.getD k 0 = v at *
          have hcv : IntKind.u64.wrap v = v := by simp [IntKind.wrap, IntKind.bits, IntKind.signed]; omega
          have HO2 : Hid (hI y = hI z) := o2
          clear HW o2
          obtain ⟨x0, x1, x2, x3, x4⟩ := id X
          go_wp2_with fail
          refine (KS _).mono ?_
          rintro e w5 ⟨rfl, hb5⟩
          clear KS x0 x1 x2 x3 x4
          have hs5 := hb5.size
          have X5 := (X.below hb5).set y
          have hZ5 := (hZ.below hb5).other (.int .u64 (hI y)) (.int .u64 (lI y)) (C := w2.heap.size) (by omega)
          have kB5 := bset2 (keepb hb5 kB) (C := w2.heap.size) (by omega) (.int .u64 (hI y)) (.int .u64 (lI y))
          have hrow5 : Hid (∀ j, j < 8 → ((w5.setCell ⟨w2.heap.size, 0, none⟩ (.int .u64 (hI y))).setCell ⟨w2.heap.size, 1, none⟩ (.int .u64 (lI y))).cell? ⟨g, j, none⟩ = some (.int .i64 (L.getD j 0))) := fun j hj => cell_wother (cell_wother (keepc hb5 (hrow.out j hj)) (by omega) _) (by omega) _
          have hc5 := cell_wother (p := 1) (cell_wother (p := 0) (keepc hb5 hc) (show ¬ w2.heap.size = g by omega) (.int .u64 (hI y))) (show ¬ w2.heap.size = g by omega) (.int .u64 (lI y))
          obtain ⟨y0, y1, y2, y3, y4⟩ := X.below hb5
          obtain ⟨x0, x1, x2, x3, x4⟩ := id X5
          clear X hZ kB hb5 hrow hc
          go_wp2_with fail
          go_region
          all_goals
            go_wp2
            go_roundw
            case rel => exact ⟨k + 1, by omega, by go_num, by rw [HZ.out]; exact (X5.wset z HO2.out).drew, fun j hj => cell_wother (hrow5.out j hj) (by omega) _, (hZ5.wother (by omega) _ _).drew, (kB5.setCell (p := ⟨w2.heap.size, 1, none⟩) (show w.heap.size ≤ w2.heap.size by omega) _).drew⟩
            case measure => simp [intOf]; omega
        · have hk8 : k = 8 := by omega
          subst hk8
          obtain ⟨x, HXE⟩ : ∃ x, Hid (gW L 8 = x) := ⟨_, rfl⟩
          rw [HXE.out] at X
          obtain ⟨x0, x1, x2, x3, x4⟩ := id X
          obtain ⟨z0, z1, z2, z3, z4⟩ := id hZ
          clear hrow HB
          go_wp2
          exact bodyPost_ret (v := .tuple #[.agg #[.int .u64 (hI x), .int .u64 (lI x)], .int .i64 0]) (by simp [results, Tryz.results76, go_sem, *]) rfl ⟨by rw [HXX.out.1, HXX.out.2, HXE.out], bset2 kB (Nat.le_refl _) _ _⟩
    · have HF : Hid (rsA t = none) := by show _ = _; rw [HRS.out, hso]; exact if_neg h8
      have h8' : ((L.length : Int) != 8) = true := by simp; omega
      obtain ⟨z0, z1, z2, z3, z4⟩ := hZ
      clear hown
      go_wp2
      exact bodyPost_ret (v := .tuple #[.agg #[.int .u64 0, .int .u64 0], .int .i64 12]) (by simp [results, Tryz.results76, go_sem, *]) rfl ⟨by rw [HF.out]; show _ = Ending.returned (.tuple #[.agg #[.int .u64 (hI 0#128), .int .u64 (lI 0#128)], .int .i64 12]); rw [hI_zero, lI_zero], bset2 kB (Nat.le_refl _) _ _⟩
end Go.Proofs.YtmeaikmmhgmgnaaGreat
namespace Go.Proofs.YtmeaikmmhgmgnaaGreat
open Go.RowKit
set_option linter.unusedSimpArgs false
set_option linter.unusedVariables false

theorem wpList_append_rowZ {P : Program} {w : World} {ops : Array Oper} {rest : List Oper} {o : Oper} {a : Act} {Q : Exit → Act → World → Prop} (hgd : o.guard = none) (s x : Operand) (t : TypeId)
    (ho : o.op = .call { callee := .builtin .append, args := #[s, x], argTypes := #[t, t] })
    (base : Nat) (e : TypeId) (i : TypeInfo) (z : Value) (bytes : Nat) (ht : P.underlying t = some (.slice e)) (hi : P.info? e = some i) (hz : i.zero = some z)
    (hsize : i.size = 1) (hby : i.bytes = bytes) (hzs : z.cells.size = 1)
    (v : Value) (n : Nat) (xs : List Value) (hs : a.eval s = v) (hown : w.ownsRow base e 1 v n xs)
    (bs : Nat) (u : Value) (m : Nat) (ys : List Value) (hx : a.eval x = u) (hsrc : w.ownsRow bs e 1 u m ys) (h1 : ∀ y ∈ ys, y.oneCell' = true)
    (h63 : n + m ≤ maxLen) (hbytes : (n + m) * bytes ≤ 140737488355328) (hbase : base ≤ w.heap.size)
    (h : ∀ ao cap w', w'.ownsRow base e 1 (.slice ao (n + m) cap) (n + m) (xs ++ ys) → w.grownBy w' v.ownBlock → wpList P ops Q rest (a.put o.dst (.slice ao (n + m) cap)) w') : wpList P ops Q (o :: rest) a w := by
  have hlen := hsrc.1
  rcases hsrc.2 with ⟨hu, hm⟩ | ⟨g, cap, cur, hu, _⟩
  · refine wpList_append_own_none hgd s x t ho base e i 1 ht hi v n xs hs hown (by rw [hx, hu]) ?_
    have hy : ys = [] := by
      rw [hm] at hlen
      cases ys with
      | nil => rfl
      | cons => simp at hlen
    obtain ⟨ao, cp, hv⟩ := own_slice hown
    have := h ao cp w (by rw [hm, hy, List.append_nil, Nat.add_zero, ← hv]; exact hown) ⟨rfl, rfl, rfl, Nat.le_refl _, fun _ _ _ => rfl⟩
    rw [hm, Nat.add_zero, ← hv] at this
    exact this
  · have hc := hsrc.cells (g := g) (by rw [hu]; rfl)
    refine wpList_append_own w hgd s x t ho base e i z 1 bytes ht hi hz hsize hby hzs (by decide) v n xs hs hown ⟨g, 0, none⟩ m cap ys (by rw [hx, hu]) (by simpa using hlen) hc h1 h63 hbytes hbase ?_
    intro v' w' h2 h3 _
    obtain ⟨ao, cp, hv⟩ := own_slice h2
    rw [hv]
    rw [hv] at h2
    exact h ao cp w' h2 h3
theorem onesI (l : List Int) : ∀ y ∈ ints l, y.oneCell' = true := by
  intro y hy
  unfold ints at hy
  obtain ⟨n, -, rfl⟩ := List.mem_map.mp hy
  rfl
theorem gsG_len (last : Bool) : ∀ (l : List ByteArray) (acc xs : List Int), gsG last l acc = some xs → xs.length ≤ acc.length + l.length + 1 := by
  intro l
  induction l with
  | nil => intro acc xs e; simp [gsG] at e; subst e; simp
  | cons q l ih =>
    intro acc xs e
    unfold gsG at e
    split at e
    · injection e with e
      subst e; simp
    · split at e
      · cases e
      · have := ih _ _ e
        simp at this ⊢; omega
theorem gsO_len (t : ByteArray) (last : Bool) (xs : List Int) (e : gsO t last = some xs) : xs.length ≤ t.size + 2 := by
  unfold gsO at e
  split at e
  · injection e with e; subst e; simp
  · have h1 := gsG_len last _ [] xs e
    have h2 := (spl_len t 58 t.size 0 0).2
    simp at h1; omega
theorem gapG_bd (t : ByteArray) : ∀ f i, 0 ≤ gapG t f i → gapG t f i + 2 ≤ t.size := by
  intro f
  induction f with
  | zero => intro i h; exact absurd h (by show ¬ (0 : Int) ≤ -1; omega)
  | succ f ih =>
    intro i h
    by_cases h1 : i + 1 < t.size
    · by_cases h2 : byteAt t i = 58 ∧ byteAt t (i + 1) = 58
      · have e : gapG t (f + 1) i = (i : Int) := by
          show (if _ then _ else _) = _
          rw [if_pos h1, if_pos h2]
        rw [e]; omega
      · have e : gapG t (f + 1) i = gapG t f (i + 1) := by
          show (if _ then _ else _) = _
          rw [if_pos h1, if_neg h2]
        rw [e] at h ⊢
        exact ih _ h
    · have e : gapG t (f + 1) i = -1 := if_neg h1
      rw [e] at h; omega
theorem gapV_bd (t : ByteArray) (h : 0 ≤ gapV t) : gapV t + 2 ≤ t.size := gapG_bd t _ _ h
theorem own_apart {w w' : World} {b1 b2 e n m : Nat} {u v : Value} {xs ys : List Value} (hu : w.ownsRow b1 e 1 u n xs) (hub : ∀ k, u.ownBlock = some k → k < b2) (hv : w.ownsRow b2 e 1 v m ys) (hg : w.grownBy w' v.ownBlock) : w'.ownsRow b1 e 1 u n xs := by
  refine hu.kept hg ?_
  cases h : u.ownBlock with
  | none => exact Or.inl rfl
  | some k =>
    right
    intro q
    have := (hv.lt k q.symm).1
    have := hub k h
    omega
def sliceLen (v : Value) : Nat := match v with | .slice _ n _ => n | _ => 0
theorem At.grownBy {w w' : World} {B : Nat} {x : BitVec 128} {row : Option Nat} (h : At w B x) (hg : w.grownBy w' row) (hne : ¬ some B = row) : At w' B x := by
  obtain ⟨h0, h1, h2, h3, h4⟩ := h
  have hb := hg.block B h4 hne
  exact ⟨hg.cell h0 hne, hg.cell h1 hne, (World.frozen?_of_block (a := ⟨B, 0, none⟩) hb).trans h2, (World.frozen?_of_block (a := ⟨B, 1, none⟩) hb).trans h3, Nat.lt_of_lt_of_le h4 hg.size⟩
theorem rep_ints (A : List Int) (j : Nat) : ints (A ++ List.replicate (j + 1) 0) = ints (A ++ List.replicate j 0) ++ [Value.int .i64 0] := by
  unfold ints
  rw [List.replicate_succ', ← List.append_assoc, List.map_append (l₂ := [0])]
  rfl
end Go.Proofs.YtmeaikmmhgmgnaaGreat
namespace Go.Proofs.YtmeaikmmhgmgnaaGreat
open Go.RowKit
set_option linter.unusedSimpArgs false
set_option linter.unusedVariables false

set_option maxHeartbeats 8000000 in
set_option maxRecDepth 20000 in
theorem rparse_sixB (t : ByteArray) (w : World) (p : Nat) (hl : t.size ≤ 60) (hg : gapV t = p) :
    Calls Tryz.prog 76 #[.int .i64 128, .string t] w fun e w' => e = .returned (.tuple #[.agg #[.int .u64 (hI (outV (rsB t p))), .int .u64 (lI (outV (rsB t p)))], .int .i64 (outE (rsB t p))]) ∧ Below w.heap.size w w' := by
  obtain ⟨i0, hi, hz0, hz1, hz2⟩ := info_parts Tryz.infoI
  have hpb := gapV_bd t (by omega)
  rw [hg] at hpb
  have KI := fun w => isFamily_any 128 w
  have hl2 : ¬ (60 : Int) < (t.size : Int) := by omega
  have KG := fun w => gap_any t w (by omega)
  rw [hg] at KG
  have KA := fun w => groups_any (t.extract 0 p) false w (by simp; omega)
  have KB := fun w => groups_any (t.extract (p + 2) t.size) true w (by simp; omega)
  have HBA : Hid (∀ xs, gsO (t.extract 0 p) false = some xs → ∀ x ∈ xs, 0 ≤ x ∧ x ≤ 65535) := gsO_bd _ _
  have HBB : Hid (∀ xs, gsO (t.extract (p + 2) t.size) true = some xs → ∀ x ∈ xs, 0 ≤ x ∧ x ≤ 65535) := gsO_bd _ _
  have HLA : Hid (∀ xs, gsO (t.extract 0 p) false = some xs → xs.length ≤ 1000) := fun xs e => by have := gsO_len _ _ _ e; simp at this; omega
  have HLB : Hid (∀ xs, gsO (t.extract (p + 2) t.size) true = some xs → xs.length ≤ 1000) := fun xs e => by have := gsO_len _ _ _ e; simp at this; omega
  have HRN : Hid (∀ {o}, gsO (t.extract 0 p) false = none → rsB t p = o → o = none) := by
    intro o h1 h2; rw [← h2]; unfold rsB; rw [h1]
  have HRM : Hid (∀ {A o}, gsO (t.extract 0 p) false = some A → gsO (t.extract (p + 2) t.size) true = none → rsB t p = o → o = none) := by
    intro A o h1 h2 h3; rw [← h3]; unfold rsB; rw [h1, h2]
  have HRS : Hid (∀ {A B}, gsO (t.extract 0 p) false = some A → gsO (t.extract (p + 2) t.size) true = some B → rsB t p = if A.length + B.length ≤ 7 then some (A ++ List.replicate (8 - (A.length + B.length)) 0 ++ B) else none) := by
    intro A B h1 h2; unfold rsB; rw [h1, h2]
  have p0 : ¬ (p : Int) < 0 := by omega
  have hps : (p : Int) ≤ (t.size : Int) := by omega
  obtain ⟨m, HMP⟩ : ∃ m, Hid (p + 2 = m) := ⟨_, rfl⟩
  rw [HMP.out] at KB
  have hu3 : (p : Int) + 2 = (m : Int) := by have := HMP.out; omega
  have hu2 : IntKind.i64.wrap (m : Int) = (m : Int) := by rw [IntKind.wrap_i64]; omega
  have hps2 : (m : Int) ≤ (t.size : Int) := by omega
  clear hg
  go_enter Tryz.func76, Tryz.ntmps76
  go_wp2_with fail
  refine (KI _).mono ?_
  rintro e w1 ⟨rfl, hw1⟩
  rw [hw1]; clear hw1 KI
  go_wp2_with fail
  refine (KG _).mono ?_
  rintro e w1 ⟨rfl, hw1⟩
  rw [hw1]; clear hw1 KG
  go_wp2_with fail
  refine (KA _).mono ?_
  rintro e w2 ⟨horA, hb2⟩
  clear KA
  have hZ := (at_new w w.heap.size 0#128 35 rfl).below hb2
  have kB := keepb hb2 (bl1 w _)
  clear hb2
  rcases horA with ⟨hnoA, rfl⟩ | ⟨A, ao, ac, hsoA, rfl, hownA⟩
  · have HF : Hid (rsB t p = none) := HRN.out hnoA rfl
    clear HRN HRM HRS HBA HBB
    go_wp2_with fail
    refine (KB _).mono ?_
    rintro e w3 ⟨horB, hb3⟩
    clear KB
    have hZ := hZ.below hb3
    have kB := keepb hb3 kB
    clear hb3
    obtain ⟨z0, z1, z2, z3, z4⟩ := hZ
    rcases horB with ⟨hnoB, rfl⟩ | ⟨B, bo, bc, hsoB, rfl, hownB⟩
    · go_wp2
      exact bodyPost_ret (v := .tuple #[.agg #[.int .u64 0, .int .u64 0], .int .i64 12]) (by simp [results, Tryz.results76, go_sem, *]) rfl ⟨by rw [HF.out]; show _ = Ending.returned (.tuple #[.agg #[.int .u64 (hI 0#128), .int .u64 (lI 0#128)], .int .i64 12]); rw [hI_zero, lI_zero], bset2 kB (Nat.le_refl _) _ _⟩
    · clear hownB
      go_wp2
      exact bodyPost_ret (v := .tuple #[.agg #[.int .u64 0, .int .u64 0], .int .i64 12]) (by simp [results, Tryz.results76, go_sem, *]) rfl ⟨by rw [HF.out]; show _ = Ending.returned (.tuple #[.agg #[.int .u64 (hI 0#128), .int .u64 (lI 0#128)], .int .i64 12]); rw [hI_zero, lI_zero], bset2 kB (Nat.le_refl _) _ _⟩
  · go_wp2_with fail
    refine (KB _).mono ?_
    rintro e w3 ⟨horB, hb3⟩
    clear KB
    have hZ := hZ.below hb3
    have kB := keepb hb3 kB
    have hownA := rowBelow hb3 hownA
    rw [← HMP.out] at horB
    rcases horB with ⟨hnoB, rfl⟩ | ⟨B, bo, bc, hsoB, rfl, hownB⟩
    · have HF : Hid (rsB t p = none) := HRM.out hsoA hnoB rfl
      clear HRN HRM HRS HBA HBB hb3 hownA
      obtain ⟨z0, z1, z2, z3, z4⟩ := hZ
      go_wp2
      exact bodyPost_ret (v := .tuple #[.agg #[.int .u64 0, .int .u64 0], .int .i64 12]) (by simp [results, Tryz.results76, go_sem, *]) rfl ⟨by rw [HF.out]; show _ = Ending.returned (.tuple #[.agg #[.int .u64 (hI 0#128), .int .u64 (lI 0#128)], .int .i64 12]); rw [hI_zero, lI_zero], bset2 kB (Nat.le_refl _) _ _⟩
    · by_cases h7 : A.length + B.length ≤ 7
      · have HF : Hid (rsB t p = some (A ++ List.replicate (8 - (A.length + B.length)) 0 ++ B)) := by
          show _ = _
          rw [HRS.out hsoA hsoB, if_pos h7]
        have h7' : ¬ (7 : Int) < (A.length : Int) + (B.length : Int) := by omega
        have HBA' := HBA.out A hsoA
        have HBB' := HBB.out B hsoB
        have hbl := fun k hk => (hownB.lt k hk).2
        have hZ3 := hZ.2.2.2.2
        have hua : IntKind.i64.wrap ((A.length : Int) + (B.length : Int)) = (A.length : Int) + (B.length : Int) := by rw [IntKind.wrap_i64]; omega
        have h63a : 0 + A.length ≤ maxLen := by unfold maxLen; omega
        have h47a : (0 + A.length) * 8 ≤ 140737488355328 := by omega
        clear HRN HRM HRS HBA HBB hb3 hsoA hsoB
        go_wp2_with (first | (at_builtin; refine wpList_append_rowZ rfl _ _ 89 rfl w3.heap.size 3 i0 (.int .i64 0) 8 Tryz.underlying89 hi hz0 hz1 hz2 rfl _ _ _ rfl (World.ownsRow_nil _ _ _ _) _ _ _ _ rfl hownA (onesI _) h63a h47a (Nat.le_refl _) ?_; intro ao4 cap4 w4 hown4 hgrow))
        have hgn : w3.grownBy w4 none := hgrow
        clear hgrow hownA
        have hZ4 := hZ.grownBy hgn (by simp)
        have kB4 : Below w.heap.size w w4 := kB.grown hgn kB.size (fun k hk => by cases hk)
        have hB4 : w4.ownsRow w2.heap.size 3 1 (.slice bo B.length bc) B.length (ints B) := hownB.kept hgn (by
          cases h : (Value.slice bo B.length bc).ownBlock with
          | none => exact Or.inl rfl
          | some k => exact Or.inr (by simp))
        have hs4 := hgn.size
        rw [Nat.zero_add, List.nil_append] at hown4
        clear hZ kB hownB hgn
        (try go_wp2)
        go_loopw [8] (fun q wr => ∃ (n j : Nat) (ao : Option Addr) (cp : Nat), q = .slice ao n cp ∧ Hid (n = A.length + j) ∧ n + B.length ≤ 8 ∧ wr.ownsRow w3.heap.size 3 1 (.slice ao n cp) n (ints (A ++ List.replicate j 0)) ∧ wr.ownsRow w2.heap.size 3 1 (.slice bo B.length bc) B.length (ints B) ∧ At wr w.heap.size 0#128 ∧ Below w.heap.size w wr ∧ w3.heap.size ≤ wr.heap.size) (fun q _ => 8 - sliceLen q)
        case atStart => exact ⟨A.length, 0, ao4, cap4, rfl, rfl, by omega, by simpa using hown4, hB4, hZ4, kB4, hs4⟩
        case round =>
          clear hown4 hB4 hZ4 kB4 hs4
          obtain ⟨n, j, ao6, cp6, rfl, HN, hn8, hown, hownB, hZ, kB, hw3⟩ := hrel
          have hun : IntKind.i64.wrap ((n : Int) + (B.length : Int)) = (n : Int) + (B.length : Int) := by rw [IntKind.wrap_i64]; omega
          have hkBs := kB.size
          by_cases hlt : n + B.length < 8
          · have hlt2 : (n : Int) + (B.length : Int) < 8 := by omega
            have h63 : n + 1 ≤ maxLen := by unfold maxLen; omega
            have h47 : (n + 1) * 8 ≤ 140737488355328 := by omega
            go_wp2_with (first | (at_builtin; refine wpList_append_lies _ rfl _ _ 89 rfl w3.heap.size 3 i0 (.int .i64 0) 1 8 Tryz.underlying89 hi hz0 hz1 hz2 rfl (by decide) _ _ _ rfl (hown.alloc _) ⟨wr.heap.size, 0, none⟩ 1 1 [.int .i64 0] rfl rfl (newsS _ _ _) (oneI _) (by decide) h63 h47 (by simp; omega) _ rfl ?_; intro g5 cap5 w5 hown5 hgrow hat hlt5))
            have kB5 : Below w.heap.size w w5 := (kB.alloc hkBs _).grown hgrow (by simp; omega) (fun q hq => by have := (hown.lt q hq).1; omega)
            have hZ5 := (hZ.below (bl1 _ _)).grownBy hgrow (fun e => by have := (hown.lt _ e.symm).1; omega)
            have hB5 := own_apart (hownB.alloc _) hbl (hown.alloc _) hgrow
            have hs5 : w3.heap.size ≤ w5.heap.size := by have := hgrow.size; simp at this; omega
            clear hgrow hat
            go_roundw
            case rel => exact ⟨n + 1, j + 1, some ⟨g5, 0, none⟩, cap5, rfl, by show _ = _; have := HN.out; omega, by omega, by rw [rep_ints]; exact hown5, hB5, hZ5, kB5, hs5⟩
            case measure => simp [sliceLen]; omega
          · have hlt2 : ¬ (n : Int) + (B.length : Int) < 8 := by omega
            have h63b : n + B.length ≤ maxLen := by unfold maxLen; omega
            have h47b : (n + B.length) * 8 ≤ 140737488355328 := by omega
            have HJ : Hid (j = 8 - (A.length + B.length)) := by show _ = _; have := HN.out; omega
            go_wp2_with (first | (at_builtin; refine wpList_append_rowZ rfl _ _ 89 rfl w3.heap.size 3 i0 (.int .i64 0) 8 Tryz.underlying89 hi hz0 hz1 hz2 rfl _ _ _ rfl hown _ _ _ _ rfl hownB (onesI _) h63b h47b hw3 ?_; intro ao5 cap5 w7 hown5 hgrow))
            have kB5 : Below w.heap.size w w7 := kB.grown hgrow hkBs (fun q hq => by have := (hown.lt q hq).1; omega)
            have hZ5 := hZ.grownBy hgrow (fun e => by have := (hown.lt _ e.symm).1; omega)
            have e8 : n + B.length = 8 := by omega
            rw [e8] at hown5
            try rw [e8]
            clear hgrow hZ kB hown hownB
            obtain ⟨g, c2, hv, hgl, hgr⟩ := hown5.form (by omega)
            have hv2 : ao5 = some ⟨g, 0, none⟩ ∧ cap5 = c2 := by
              injection hv with e1 e2 e3; exact ⟨e1, e3⟩
            obtain ⟨rfl, rfl⟩ := hv2
            obtain ⟨L, HLL⟩ : ∃ L : List Int, Hid (A ++ List.replicate j 0 ++ B = L) := ⟨A ++ List.replicate j 0 ++ B, rfl⟩
            have hown6 : w7.ownsRow w3.heap.size 3 1 (.slice (some ⟨g, 0, none⟩) 8 cap5) 8 (ints L) := by
              rw [← HLL.out]; unfold ints; rw [List.map_append]; exact hown5
            have h8 : L.length = 8 := by
              rw [← HLL.out]; simp; have := HN.out; omega
            have HXX : Hid (outV (rsB t p) = gW L 8 ∧ outE (rsB t p) = 0) := by
              show _ ∧ _
              rw [HF.out, ← HJ.out, HLL.out]; exact ⟨rfl, rfl⟩
            have hrow : Hid (∀ j, j < 8 → w7.cell? ⟨g, j, none⟩ = some (.int .i64 (L.getD j 0))) := fun j hj => row_int hown6 h8.symm j hj
            have HB : Hid (∀ j, j < 8 → 0 ≤ L.getD j 0 ∧ L.getD j 0 ≤ 65535) := fun i hi => by
              have hm : L.getD i 0 ∈ L := by rw [List.getD_eq_getElem?_getD, List.getElem?_eq_getElem (by omega)]; exact List.getElem_mem _
              rw [← HLL.out] at hm
              rw [← HLL.out]
              simp only [List.mem_append, List.mem_replicate] at hm
              rcases hm with (hm | hm) | hm
              · exact HBA' _ hm
              · rw [hm.2]; omega
              · exact HBB' _ hm
            have hgl' := (hown6.lt g rfl).2
            have hgB : w.heap.size + 1 ≤ g := by have := (hown6.lt g rfl).1; omega
            clear hown5 hown6 hv hgl hgr HF HJ HN HLL HBA' HBB' hbl
            have hZ := hZ5
            have kB := kB5
            clear hZ5 kB5
            go_wp2
            go_loopw [17] (fun q wr => ∃ k : Nat, k ≤ 8 ∧ q = .int .i64 k ∧ At wr w7.heap.size (gW L k) ∧ Hid (∀ j, j < 8 → wr.cell? ⟨g, j, none⟩ = some (.int .i64 (L.getD j 0))) ∧ At wr w.heap.size 0#128 ∧ Below w.heap.size w wr) (fun q _ => 8 - (intOf q).toNat)
            case atStart =>
              refine ⟨0, by omega, rfl, ?_, fun j hj => keepc (bl1 _ _) (hrow.out j hj), hZ.below (bl1 _ _), kB.alloc kB.size _⟩
              show At _ _ 0#128
              refine ⟨?_, ?_, ?_, ?_, ?_⟩ <;> simp [go_sem, hI_zero, lI_zero]
            case round =>
              have hZW := hZ.2.2.2.2
              clear hrow hZ kB
              obtain ⟨k, hk, rfl, X, hrow, hZ, kB⟩ := hrel
              by_cases hlt : k < 8
              · have hk2 : (k : Int) < 8 := by omega
                obtain ⟨v0, v1⟩ := HB.out k hlt
                have hc := hrow.out k hlt
                have KS : ∀ w, Calls Tryz.prog 97 #[.agg #[.int .u64 (hI (gW L k)), .int .u64 (lI (gW L k))], .int .i64 16] w fun e w' => e = .returned (.agg #[.int .u64 (hI (gW L k <<< 16)), .int .u64 (lI (gW L k <<< 16))]) ∧ Below w.heap.size w w' := fun w => rshl_any (gW L k) 16 w
                have HW : Hid (gW L (k + 1) = (gW L k <<< 16) ||| mkW 0 (L.getD k 0)) := rfl
                obtain ⟨o1, o2⟩ := orLo (gW L k <<< 16) (L.getD k 0) v0 v1
                rw [← HW.out] at o1 o2
                obtain ⟨z, HZ⟩ : ∃ z, Hid (gW L (k + 1) = z) := ⟨_, rfl⟩
                rw [HZ.out] at o1 o2
                generalize gW L k <<< 16 = y at *
                generalize gW L k = x at *
                generalize L.getD k 0 = v at *
                have hcv : IntKind.u64.wrap v = v := by simp [IntKind.wrap, IntKind.bits, IntKind.signed]; omega
                have HO2 : Hid (hI y = hI z) := o2
                clear HW o2
                obtain ⟨x0, x1, x2, x3, x4⟩ := id X
                go_wp2_with fail
                refine (KS _).mono ?_
                rintro e w5 ⟨rfl, hb5⟩
                clear KS x0 x1 x2 x3 x4
                have hs5 := hb5.size
                have X5 := (X.below hb5).set y
                have hZ5 := (hZ.below hb5).other (.int .u64 (hI y)) (.int .u64 (lI y)) (C := w7.heap.size) (by omega)
                have kB5 := bset2 (keepb hb5 kB) (C := w7.heap.size) (by omega) (.int .u64 (hI y)) (.int .u64 (lI y))
                have hrow5 : Hid (∀ j, j < 8 → ((w5.setCell ⟨w7.heap.size, 0, none⟩ (.int .u64 (hI y))).setCell ⟨w7.heap.size, 1, none⟩ (.int .u64 (lI y))).cell? ⟨g, j, none⟩ = some (.int .i64 (L.getD j 0))) := fun j hj => cell_wother (cell_wother (keepc hb5 (hrow.out j hj)) (by omega) _) (by omega) _
                have hc5 := cell_wother (p := 1) (cell_wother (p := 0) (keepc hb5 hc) (show ¬ w7.heap.size = g by omega) (.int .u64 (hI y))) (show ¬ w7.heap.size = g by omega) (.int .u64 (lI y))
                obtain ⟨y0, y1, y2, y3, y4⟩ := X.below hb5
                obtain ⟨x0, x1, x2, x3, x4⟩ := id X5
                clear X hZ kB hb5 hrow hc
                go_wp2_with fail
                go_region
                all_goals
                  go_wp2
                  go_roundw
                  case rel => exact ⟨k + 1, by omega, by go_num, by rw [HZ.out]; exact (X5.wset z HO2.out).drew, fun j hj => cell_wother (hrow5.out j hj) (by omega) _, (hZ5.wother (by omega) _ _).drew, (kB5.setCell (p := ⟨w7.heap.size, 1, none⟩) (show w.heap.size ≤ w7.heap.size by omega) _).drew⟩
                  case measure => simp [intOf]; omega
              · have hk8 : k = 8 := by omega
                subst hk8
                obtain ⟨x, HXE⟩ : ∃ x, Hid (gW L 8 = x) := ⟨_, rfl⟩
                rw [HXE.out] at X
                obtain ⟨x0, x1, x2, x3, x4⟩ := id X
                obtain ⟨z0, z1, z2, z3, z4⟩ := id hZ
                clear hrow HB
                go_wp2
                exact bodyPost_ret (v := .tuple #[.agg #[.int .u64 (hI x), .int .u64 (lI x)], .int .i64 0]) (by simp [results, Tryz.results76, go_sem, *]) rfl ⟨by rw [HXX.out.1, HXX.out.2, HXE.out], bset2 kB (Nat.le_refl _) _ _⟩
      · have HF : Hid (rsB t p = none) := by
          show _ = _
          rw [HRS.out hsoA hsoB, if_neg h7]
        have h7' : (7 : Int) < (A.length : Int) + (B.length : Int) := by omega
        have la := HLA.out A hsoA
        have lb := HLB.out B hsoB
        have hua : IntKind.i64.wrap ((A.length : Int) + (B.length : Int)) = (A.length : Int) + (B.length : Int) := by rw [IntKind.wrap_i64]; omega
        clear HRN HRM HRS HBA HBB hb3 hownA hownB
        obtain ⟨z0, z1, z2, z3, z4⟩ := hZ
        go_wp2
        exact bodyPost_ret (v := .tuple #[.agg #[.int .u64 0, .int .u64 0], .int .i64 12]) (by simp [results, Tryz.results76, go_sem, *]) rfl ⟨by rw [HF.out]; show _ = Ending.returned (.tuple #[.agg #[.int .u64 (hI 0#128), .int .u64 (lI 0#128)], .int .i64 12]); rw [hI_zero, lI_zero], bset2 kB (Nat.le_refl _) _ _⟩
end Go.Proofs.YtmeaikmmhgmgnaaGreat
namespace Go.Proofs.YtmeaikmmhgmgnaaGreat
open Go.RowKit
set_option linter.unusedSimpArgs false
set_option linter.unusedVariables false

theorem rparse2_any (F : Int) (t : ByteArray) (w : World) (hs : t.size ≤ maxLen) :
    Calls Tryz.prog 76 #[.int .i64 F, .string t] w fun e w' => e = .returned (.tuple #[.agg #[.int .u64 (hI (rpV F t)), .int .u64 (lI (rpV F t))], .int .i64 (rpE F t)]) ∧ Below w.heap.size w w' := by
  unfold rpV rpE
  cases hf : fam F
  · simp only [true_or, if_true, hI_zero, lI_zero]
    exact rparse_fam F t w hf
  · simp only [Bool.true_eq_false, false_or, if_false]
    by_cases hl : 60 < t.size
    · simp only [hl, if_true, hI_zero, lI_zero]
      exact rparse_long F t w hf hs hl
    · simp only [hl, if_false]
      rcases fam_ways F hf with rfl | rfl
      · simp only [if_true]
        exact rparse_four t w (by omega)
      · simp only [show ¬ (128 : Int) = 32 by decide, if_false]
        unfold rsO
        by_cases hg : gapV t < 0
        · rw [if_pos hg]
          exact rparse_sixA t w (by omega) hg
        · rw [if_neg hg]
          exact rparse_sixB t w (gapV t).toNat (by omega) (by omega)

end Go.Proofs.YtmeaikmmhgmgnaaGreat
