/-
  Part 14 of the proof: 1 texts, one behind the other.
-/
import Derived.Test.YtdpfdlkaickkiaaPart13
namespace Go.Proofs.Ytdpfdlkaickkiaa
open Go.RowKit Go.Shelf
set_option linter.unusedSimpArgs false
set_option linter.unusedVariables false
attribute [local go_sem] Oper.semAt_some

theorem u64_bd (x : Int) : 0 ≤ IntKind.u64.wrap x ∧ IntKind.u64.wrap x ≤ 18446744073709551615 := by
  have : IntKind.u64.wrap x = x % 18446744073709551616 := by simp [IntKind.wrap, IntKind.bits, IntKind.signed]
  rw [this]
  omega
theorem smI_bd (l : List Rn) : 0 ≤ smI l ∧ smI l ≤ 18446744073709551615 := by
  rcases List.eq_nil_or_concat l with rfl | ⟨t, r, rfl⟩
  · exact ⟨by decide, by decide⟩
  · unfold smI
    rw [List.concat_eq_append, List.foldl_append]
    show 0 ≤ stI _ _ ∧ stI _ _ ≤ _
    unfold stI
    exact u64_bd _
theorem nbG_len (nm : List Rn → Rn → Int) : ∀ (t pre RS : List Rn), (nbG nm pre RS t).length ≤ RS.length + t.length
  | [], pre, RS => Nat.le_refl _
  | r :: t, pre, RS => by
    have h1 := nbG_len nm t (pre ++ [r]) (mgR RS (rnK nm pre r))
    have h2 := mgR_len RS (rnK nm pre r)
    have h3 : (r :: t).length = t.length + 1 := rfl
    show (nbG nm (pre ++ [r]) (mgR RS (rnK nm pre r)) t).length ≤ _
    omega
def nmD (OF : List Int) (d : Nde) : Nde := ⟨d.b, nbG (fun _ r => OF.getD r.n.toNat 0) [] [] d.r⟩
def fsQ (NL : List Nde) (d : Nde) : List Int → Option Int
  | [] => none
  | x :: t => if sqD (NL.getD x.toNat ⟨0, []⟩) d then some x else fsQ NL d t
def adI (NL : List Nde) (d : Nde) : Int := (fsQ NL d (bkG d NL 0)).getD (NL.length : Int)
def adN (NL : List Nde) (d : Nde) : List Nde := if (fsQ NL d (bkG d NL 0)).isSome then NL else NL ++ [d]
theorem fsQ_drop (NL : List Nde) (d : Nde) (l : List Int) (k : Nat) (x : Int) (h : l[k]? = some x) : fsQ NL d (l.drop k) = if sqD (NL.getD x.toNat ⟨0, []⟩) d then some x else fsQ NL d (l.drop (k + 1)) := by
  rw [List.drop_eq_getElem_cons (List.getElem?_eq_some_iff.mp h).1, (List.getElem?_eq_some_iff.mp h).2]; rfl
theorem gh_entry12 {P : Program} {o : Oper} {a' : Act} {w' w'' : World} {K : Act → World → Prop} {Q' : Exit → Act → World → Prop} {v : Value} (hr : (execOp a'.eval o).run P w' = .ok (.value v) w'') (hK : K (a'.put o.dst v) w'') : o.wp P a' w' K Q' := by
  unfold Oper.wp Oper.upon
  rw [hr]
  exact hK
theorem gh_store12 {P : Program} {o : Oper} {a' : Act} {w' w'' : World} {K : Act → World → Prop} {Q' : Exit → Act → World → Prop} (hr : (execOp a'.eval o).run P w' = .ok .skip w'') (hK : K (a'.put o.dst undef) w'') : o.wp P a' w' K Q' := by
  unfold Oper.wp Oper.upon
  rw [hr]
  exact hK
set_option maxRecDepth 20000 in
set_option maxHeartbeats 4000000 in
theorem addk_any (S B Gf : Nat) (v1 v3 : Value) (OF : List Int) (k : Nat) (X : World) (hp : X.heap[S]? = some (.cells #[.pointer (some ⟨B, 0, none⟩)] 118)) (hJ : X.heap[B]? = some (.cells #[v1, .slice (some ⟨Gf, 0, none⟩) OF.length OF.length, v3] 64)) (hf : X.heap[Gf]? = some (.cells (OF.map cI).toArray 3)) (hk : k < OF.length) :
    Calls Try.prog 72 (#[.int .i64 (k : Int)] ++ #[.pointer (some ⟨S, 0, none⟩)]) X fun e X' => e = .returned (.int .i64 (OF.getD k 0)) ∧ X' = X := by
  have p0 := at_16 hp 0 _ rfl
  have j1 := at_16 hJ 1 _ rfl
  have f0 : X.cell? ⟨Gf, k, none⟩ = some (.int .i64 (OF.getD k 0)) := at_16 hf k _ (by rw [List.getElem?_toArray, List.getElem?_map, List.getElem?_eq_getElem hk, List.getD_eq_getElem?_getD, List.getElem?_eq_getElem hk]; rfl)
  obtain ⟨y, hy⟩ : ∃ y, y = OF.getD k 0 := ⟨_, rfl⟩
  rw [← hy] at f0 ⊢
  have hki : (k : Int) < (OF.length : Int) := by omega
  clear hp hJ hf hy
  show Calls Try.prog 72 #[.int .i64 (k : Int), .pointer (some ⟨S, 0, none⟩)] X _
  go_enter Try.func72, Try.ntmps72
  go_wp2
  go_ret
  exact ⟨rfl, rfl⟩
set_option maxRecDepth 100000 in
set_option maxHeartbeats 16000000 in
theorem add12_any (w : World) (base B Gf M : Nat) (vn : Value) (V : List Value) (NL : List Nde) (OF : List Int) (es : Array MapEntry) (clock : Nat) (h : JnV base B Gf M vn V NL OF NL es clock w) (b : Int) (vr : Value) (l : List Rn) (hv : RwN w vr l) (hl : l.length ≤ 1000000) (hb0 : -9223372036854775808 ≤ b) (hb1 : b ≤ 9223372036854775807)
    (hk : ∀ r ∈ l, r.k = true → 0 ≤ r.n ∧ r.n < (OF.length : Int)) (hNL : NL.length ≤ 1000000) (hNr : ∀ d ∈ NL, d.r.length ≤ 1000000) :
    Calls Try.prog 48 #[.pointer (some ⟨B, 0, none⟩), .agg #[.int .i64 b, vr]] w fun e w' => ∃ vn' V' es' clock', e = .returned (.int .i64 (adI NL (nmD OF ⟨b, l⟩))) ∧ JnV base B Gf M vn' V' (adN NL (nmD OF ⟨b, l⟩)) OF (adN NL (nmD OF ⟨b, l⟩)) es' clock' w' ∧ KJ base M B w w' := by
  obtain ⟨ao, c, hvf, -⟩ := id hv
  subst hvf
  obtain ⟨j0, ji, jz0, jz1, jz2⟩ := info13 Try.infoD16
  obtain ⟨k0, ki, kz0, kz1, kz2⟩ := info13 Try.infoN16
  have hmf : ∀ (fn : Fn) (first cap : Array Value) (w : World), (Instr.makeFunc fn first cap).run Try.prog w = .ok (.func fn first cap) w := fun _ _ _ _ => rfl
  have q1 := bl1 w (.cells #[.pointer (some ⟨B, 0, none⟩)] 118)
  have q2 := bl1 (w.alloc (.cells #[.pointer (some ⟨B, 0, none⟩)] 118)) (.cells #[.int .i64 b, .slice ao l.length c] 57)
  have n1 := new_16 w (.cells #[.pointer (some ⟨B, 0, none⟩)] 118)
  have n2 := new_16 (w.alloc (.cells #[.pointer (some ⟨B, 0, none⟩)] 118)) (.cells #[.int .i64 b, .slice ao l.length c] 57)
  rw [World.size_alloc] at n2
  have s2 : ((w.alloc (.cells #[.pointer (some ⟨B, 0, none⟩)] 118)).alloc (.cells #[.int .i64 b, .slice ao l.length c] 57)).heap.size = w.heap.size + 2 := by rw [World.size_alloc, World.size_alloc]
  have hbw := h.lob
  have HQ : Hid (∀ X, X = (w.alloc (.cells #[.pointer (some ⟨B, 0, none⟩)] 118)).alloc (.cells #[.int .i64 b, .slice ao l.length c] 57) → Below w.heap.size w X ∧ X.heap[w.heap.size]? = some (.cells #[.pointer (some ⟨B, 0, none⟩)] 118) ∧ X.heap[w.heap.size + 1]? = some (.cells #[.int .i64 b, .slice ao l.length c] 57) ∧ X.heap.size = w.heap.size + 2) := hid13 (by
    rintro X rfl
    exact ⟨keepb q2 q1, (q2.block _ (lt_16 n1)).trans n1, n2, s2⟩)
  have HH := hid13 h
  have HV := hid13 hv
  have HL : Hid (l.length ≤ 1000000 ∧ NL.length ≤ 1000000 ∧ base ≤ w.heap.size) := ⟨hl, hNL, hbw⟩
  have HB : Hid (-9223372036854775808 ≤ b ∧ b ≤ 9223372036854775807) := ⟨hb0, hb1⟩
  have HKd := hid13 hk
  have HNr := hid13 hNr
  obtain ⟨R, hR⟩ : ∃ R, R = (nmD OF ⟨b, l⟩).r := ⟨_, rfl⟩
  have HR : Hid (nbG (fun _ r => OF.getD r.n.toNat 0) [] [] l = R) := hR.symm
  have HRl : Hid (R.length ≤ 1000000) := hid13 (by
    rw [hR]
    have := nbG_len (fun _ r => OF.getD r.n.toNat 0) l [] []
    rw [List.length_nil, Nat.zero_add] at this
    exact Nat.le_trans this hl)
  have hD : nmD OF ⟨b, l⟩ = ⟨b, R⟩ := by rw [hR]; rfl
  rw [hD]
  obtain ⟨D, hDD⟩ : ∃ D, D = (⟨b, R⟩ : Nde) := ⟨_, rfl⟩
  rw [← hDD]
  have HDe : Hid (D = ⟨b, R⟩) := hDD
  clear hDD
  clear h hv hk hl hNL hNr hbw hb0 hb1 hR hD q1 q2 n1 n2 s2
  go_enter Try.func48, Try.ntmps48
  go_wp2_with fail
  revert HQ
  generalize (w.alloc (.cells #[.pointer (some ⟨B, 0, none⟩)] 118)).alloc (.cells #[.int .i64 b, .slice ao l.length c] 57) = W2
  intro HQ
  obtain ⟨HQb, HQp, HQn, HQs⟩ := HQ.out W2 rfl
  have HJ2 := hid13 (HH.out.below HQb)
  have K1 := numbered_any b (.slice ao l.length c) l 72 #[.pointer (some ⟨w.heap.size, 0, none⟩)] W2 (fun _ r => OF.getD r.n.toNat 0) (fun _ X => Below W2.heap.size W2 X) (fun _ => False) (by have := HL.out.1; omega) (enters_of Try.func72 (by kernel_rfl) rfl) (fun z hz => hz.elim) (fun pre A B h1 h2 => h1.trans h2) (fun pre X h1 => (HV.out.below HQb).below h1) (fun pre r X _ h1 => h1)
    (fun pre r t X hlr hrk hX hs => by
      have hm : r ∈ l := by rw [hlr]; simp
      obtain ⟨r0, r1⟩ := HKd.out r hm hrk
      obtain ⟨k, hkk⟩ : ∃ k : Nat, r.n = (k : Int) := ⟨r.n.toNat, by omega⟩
      have hJX := HJ2.out.below hX
      have := addk_any w.heap.size B Gf vn (.map (some M)) OF k X ((hX.block _ (lt_16 HQp)).trans HQp) hJX.j hJX.f (by omega)
      rw [hkk, Int.toNat_natCast]
      exact this.mono fun e X' ⟨h1, h2⟩ => ⟨h1, by rw [h2]; exact hX, by rw [h2]; exact KX.refl _ _⟩) (Below.refl _ _)
  rw [HR.out] at K1
  have HP := hid13 HQp
  have HN := hid13 HQn
  have HS2 := hid13 HQs
  have HB2 := hid13 HQb
  clear HQ HQb HQp HQn HQs
  refine K1.mono ?_
  rintro e W3 ⟨vo, rfl, ho, hb3, -⟩
  have hbx := HB2.out.trans (hb3.mono (by rw [HS2.out]; omega))
  have hn3 := (hb3.block _ (lt_16 HN.out)).trans HN.out
  have hp3 := (hb3.block _ (lt_16 HP.out)).trans HP.out
  have x0 := at_16 hn3 0 _ rfl
  have x1 := at_16 hn3 1 _ rfl
  have xf0 := fr_16 (j := 0) hn3
  have xf1 := fr_16 (j := 1) hn3
  have hno : vo.ownBlock ≠ some (w.heap.size + 1) := fun q => by have := (ho.lt _ q).1; have := HS2.out; omega
  have y1 : (W3.setCell ⟨w.heap.size + 1, 0, none⟩ (.int .i64 b)).heap[w.heap.size + 1]? = some (.cells #[.int .i64 b, .slice ao l.length c] 57) := set_16 hn3 _
  have y2 : ((W3.setCell ⟨w.heap.size + 1, 0, none⟩ (.int .i64 b)).setCell ⟨w.heap.size + 1, 1, none⟩ vo).heap[w.heap.size + 1]? = some (.cells #[.int .i64 b, vo] 57) := set_16 y1 _
  have HW4 : Hid (∀ X, X = (W3.setCell ⟨w.heap.size + 1, 0, none⟩ (.int .i64 b)).setCell ⟨w.heap.size + 1, 1, none⟩ vo → X.heap[w.heap.size]? = some (.cells #[.pointer (some ⟨B, 0, none⟩)] 118) ∧ X.heap[w.heap.size + 1]? = some (.cells #[.int .i64 b, vo] 57) ∧ Below w.heap.size w X ∧ X.ownsRow (w.heap.size + 2) 54 4 vo R.length (rowN R)) := hid13 (by
    rintro X rfl
    refine ⟨(far_16 (by omega)).trans ((far_16 (by omega)).trans hp3), y2, (hbx.setCell (p := ⟨w.heap.size + 1, 0, none⟩) (by show w.heap.size ≤ w.heap.size + 1; omega) _).setCell (p := ⟨w.heap.size + 1, 1, none⟩) (by show w.heap.size ≤ w.heap.size + 1; omega) _, ?_⟩
    have h9 := own_far16 (own_far16 ho (o := 0) (.int .i64 b) hno) (o := 1) vo hno
    rw [HS2.out] at h9
    exact h9)
  have z0 := at_16 y2 0 _ rfl
  have z1 := at_16 y2 1 _ rfl
  obtain ⟨vb, vc, hvo⟩ := own_form ho
  subst hvo
  have KO := fun X (hX : RwN X (.slice vb R.length vc) R) => outline_any b (.slice vb R.length vc) R X hX (by have := HRl.out; omega)
  unfold oV at KO
  dsimp only at KO
  clear K1 ho hb3 hbx hn3 hp3 hno y1 y2
  go_wp2_with fail
  clear x0 x1 xf0 xf1 z0 z1
  revert HW4
  generalize (W3.setCell ⟨w.heap.size + 1, 0, none⟩ (.int .i64 b)).setCell ⟨w.heap.size + 1, 1, none⟩ (.slice vb R.length vc) = W4
  intro HW4
  obtain ⟨hp4, hn4, hb4, ho4⟩ := HW4.out W4 rfl
  refine (KO W4 (own_rwn16 ho4)).mono ?_
  rintro e W5 ⟨rfl, hb5⟩
  have q6 := bl1 W5 (.cells #[.int .i64 b, .int .i64 (R.length : Int), .int .u64 (smI R)] 120)
  have n6 := new_16 W5 (.cells #[.int .i64 b, .int .i64 (R.length : Int), .int .u64 (smI R)] 120)
  have hb46 := keepb q6 hb5
  have HA6 : Hid (AdV w base B Gf M b (.slice vb R.length vc) R W5.heap.size vn V NL OF NL es clock (W5.alloc (.cells #[.int .i64 b, .int .i64 (R.length : Int), .int .u64 (smI R)] 120))) := hid13 ⟨(hb46.block _ (lt_16 hp4)).trans hp4, (hb46.block _ (lt_16 hn4)).trans hn4, n6, HH.out.below (hb4.trans (hb46.mono (by have := lt_16 hn4; omega))), own_b13 hb46 ho4, KJ.below (hb4.trans (hb46.mono (by have := lt_16 hn4; omega))) HL.out.2.2, fun x hx z hz => by
    obtain ⟨i, hi⟩ := List.getElem?_of_mem hx
    have hil : i < NL.length := by rw [← HH.out.n.l]; exact (List.getElem?_eq_some_iff.mp hi).1
    exact ((HH.out.n.r i NL[i] x (List.getElem?_eq_getElem hil) hi).lt z hz).2, fun z hz => (HH.out.n.o.lt z hz).2, HL.out.2.2⟩
  obtain ⟨kl, hkey⟩ := key12 (a := b) (b := (R.length : Int)) (c := smI R) ⟨HB.out, ⟨by omega, by have := HRl.out; omega⟩, smI_bd R⟩
  have HKy : Hid (keyOf Try.prog 120 (oV D) = some kl) := hid13 (by rw [HDe.out]; exact hkey)
  obtain ⟨vk, hlook⟩ := HH.out.k.look2 D (l := kl) HKy.out
  have HLk := hid13 hlook
  obtain ⟨bk, hbk⟩ : ∃ bk, bk = bkG D NL 0 := ⟨_, rfl⟩
  have HBk : Hid (bkG D NL 0 = bk) := hbk.symm
  rw [HBk.out] at HLk
  obtain ⟨lo, lc, hvk⟩ := own_form (HLk.out _ HA6.out.j.k).2
  subst hvk
  have HBl : Hid (bk.length ≤ 1000000) := hid13 (by rw [hbk]; exact Nat.le_trans (bkG_len D NL 0) HL.out.2.1)
  have HBi : Hid (∀ x ∈ bk, 0 ≤ x ∧ x < (NL.length : Int)) := hid13 (by rw [hbk]; intro x hx; have := bkG_in D NL 0 x hx; omega)
  have hl1 : ∀ n, (Instr.lookup 62 (.map (some M)) (.agg #[.int .i64 b, .int .i64 (R.length : Int), .int .u64 (smI R)]) false).run Try.prog ((W5.alloc (.cells #[.int .i64 b, .int .i64 (R.length : Int), .int .u64 (smI R)] 120)).drewN n) = .ok (.slice lo bk.length lc) ((W5.alloc (.cells #[.int .i64 b, .int .i64 (R.length : Int), .int .u64 (smI R)] 120)).drewN n) := fun n => by
    have h9 := (HLk.out _ (HA6.out.below (below_drewN (Below.refl _ _) n)).j.k).1
    rw [HDe.out] at h9
    exact h9
  have p0 := at_16 HA6.out.p 0 _ rfl
  have j2 := at_16 HA6.out.j.j 2 _ rfl
  have c0 := at_16 HA6.out.c 0 _ rfl
  have c1 := at_16 HA6.out.c 1 _ rfl
  have c2 := at_16 HA6.out.c 2 _ rfl
  have HAn := hid13 (fun n => HA6.out.below (below_drewN (Below.refl _ _) n))
  clear KO hb5 q6 n6 hb46 hp4 hn4 hb4 ho4 HW4 hkey hlook hbk HA6
  go_wp2_with fail
  go_quiet (fail)
  have HA0 := hid13 (HAn.out nq)
  clear p0 j2 c0 c1 c2 hl1 HAn
  obtain ⟨KB, hKB⟩ : ∃ KB, KB = W5.heap.size := ⟨_, rfl⟩
  rw [← hKB] at HA0 ⊢
  revert HA0
  generalize (W5.alloc (.cells #[.int .i64 b, .int .i64 (R.length : Int), .int .u64 (smI R)] 120)).drewN nq = W7
  intro HA0
  clear hKB HJ2 HP HN HS2 HB2
  go_wp2_with fail
  go_loopg [21] bk.length (fun gk iv wr => ∃ k : Nat, k + gk = bk.length ∧ iv = .int .i64 (k : Int) ∧ Hid (AdV w base B Gf M b (.slice vb R.length vc) R KB vn V NL OF NL es clock wr ∧ fsQ NL D (bk.drop k) = fsQ NL D bk))
  case atStart => exact ⟨0, by omega, rfl, hid13 ⟨HA0.out, rfl⟩⟩
  case round =>
    clear HA0
    obtain ⟨k, hk, rfl, HS⟩ := hrel
    have mi : IntKind.i64.wrap ((k : Int) + 1) = ((k + 1 : Nat) : Int) := by rw [IntKind.wrap_i64]; have := HBl.out; push_cast; omega
    by_cases hlt : (k : Int) < (bk.length : Int)
    · have hkl : k < bk.length := by omega
      obtain ⟨x, hx⟩ : ∃ x, bk[k]? = some x := ⟨bk[k], by simp [hkl]⟩
      obtain ⟨x0, x1⟩ := HBi.out x (List.mem_of_getElem? hx)
      have HD := hid13 (fsQ_drop NL D bk k x hx)
      obtain ⟨xn, rfl⟩ : ∃ xn : Nat, x = (xn : Int) := ⟨x.toNat, by omega⟩
      have hxn : xn < NL.length := by omega
      obtain ⟨d, hd⟩ : ∃ d, NL[xn]? = some d := ⟨_, List.getElem?_eq_getElem hxn⟩
      obtain ⟨u, hu⟩ : ∃ u, V[xn]? = some u := ⟨_, List.getElem?_eq_getElem (by rw [HS.out.1.j.n.l]; exact hxn)⟩
      have hgd : NL.getD ((xn : Nat) : Int).toNat ⟨0, []⟩ = d := by rw [Int.toNat_natCast, List.getD_eq_getElem?_getD, hd]; rfl
      rw [hgd] at HD
      have hov := (HLk.out wr HS.out.1.j.k).2
      obtain ⟨gk2, lc2, hlo, -⟩ := own_some18 hov (by omega)
      injection hlo with hlo1 hlo2 hlo3
      subst hlo1
      have o0 := (own_cell16 hov hx).1
      obtain ⟨gn, nc, hvn, -⟩ := own_some18 HS.out.1.j.n.o (by omega)
      subst hvn
      have HRn := hid13 (fun (X : World) (h : AdV w base B Gf M b (.slice vb R.length vc) R KB (.slice (some ⟨gn, 0, none⟩) NL.length nc) V NL OF NL es clock X) => show X.cell? ⟨gn, xn * 2, none⟩ = some (.int .i64 d.b) ∧ X.cell? ⟨gn, xn * 2 + 1, none⟩ = some u ∧ RwN X u d.r from by
        obtain ⟨r0, r1⟩ := rowD_get NL V xn d u hd hu
        exact ⟨(own_at18 h.j.n.o r0).1, (own_at18 h.j.n.o r1).1, own_rwn16 (h.j.n.r xn d u hd hu)⟩)
      have HJ : Hid (k < bk.length ∧ k + gk = bk.length ∧ xn < NL.length) := ⟨hkl, hk, hxn⟩
      have hx1' : (xn : Int) < (NL.length : Int) := by omega
      obtain ⟨t, ht⟩ : ∃ t, t = sqD d D := ⟨_, rfl⟩
      rw [← ht] at HD
      have hdl := HNr.out _ (List.mem_of_getElem? hd)
      obtain ⟨db, dr⟩ := d
      dsimp only at HRn hdl
      have KS := hid13 (fun (X : World) (h : AdV w base B Gf M b (.slice vb R.length vc) R KB (.slice (some ⟨gn, 0, none⟩) NL.length nc) V NL OF NL es clock X) => by
        have h9 := sameS12 db b u (.slice vb R.length vc) dr R X (HRn.out X h).2.2 (own_rwn16 h.o) (Nat.le_trans hdl (by decide))
        rw [← HDe.out, ← ht] at h9
        exact h9)
      clear hx hd hu hgd hov hlo2 hlo3 hkl hxn ht hk x0 x1 hdl
      go_wp2_with fail
      refine qw_region (C := (fun X => AdV w base B Gf M b (.slice vb R.length vc) R KB (.slice (some ⟨gn, 0, none⟩) NL.length nc) V NL OF NL es clock X)) (by kernel_rfl) (by kernel_rfl) (HS.out.1.below (Below.refl _ _).drew) ?_
      refine qw_run (v := .pointer (some ⟨B, 0, none⟩)) (by rfl) ?_ ?_
      · (intro w9 hC; have c0 := at_16 hC.p 0 _ rfl; clear hC; go_simp; first | done | (simp; done) | (simp [*]; done) | omega | (simp; omega) | (rw [IntKind.wrap_i64]; omega) | (intro hx; omega) | rfl)
      simp only [Act.put, List.setIfInBounds_toArray, List.set_cons_zero, List.set_cons_succ]
      refine qw_run (v := .pointer (some ⟨B, 0, none⟩)) (by rfl) ?_ ?_
      · (intro w9 hC; clear hC; go_simp; first | done | (simp; done) | (simp [*]; done) | omega | (simp; omega) | (rw [IntKind.wrap_i64]; omega) | (intro hx; omega) | rfl)
      simp only [Act.put, List.setIfInBounds_toArray, List.set_cons_zero, List.set_cons_succ]
      refine qw_run (v := .pointer (some ⟨B, 0, none⟩)) (by rfl) ?_ ?_
      · (intro w9 hC; clear hC; go_simp; first | done | (simp; done) | (simp [*]; done) | omega | (simp; omega) | (rw [IntKind.wrap_i64]; omega) | (intro hx; omega) | rfl)
      simp only [Act.put, List.setIfInBounds_toArray, List.set_cons_zero, List.set_cons_succ]
      refine qw_run (v := .slice (some ⟨gn, 0, none⟩) NL.length nc) (by rfl) ?_ ?_
      · (intro w9 hC; have c0 := at_16 hC.j.j 0 _ rfl; clear hC; go_simp; first | done | (simp; done) | (simp [*]; done) | omega | (simp; omega) | (rw [IntKind.wrap_i64]; omega) | (intro hx; omega) | rfl)
      simp only [Act.put, List.setIfInBounds_toArray, List.set_cons_zero, List.set_cons_succ]
      refine qw_run (v := .int .i64 (xn : Int)) (by rfl) ?_ ?_
      · (intro w9 hC; clear hC; go_simp; first | done | (simp; done) | (simp [*]; done) | omega | (simp; omega) | (rw [IntKind.wrap_i64]; omega) | (intro hx; omega) | rfl)
      simp only [Act.put, List.setIfInBounds_toArray, List.set_cons_zero, List.set_cons_succ]
      refine qw_run (v := .pointer (some ⟨gn, xn * 2, none⟩)) (by rfl) ?_ ?_
      · (intro w9 hC; clear hC; go_simp; first | done | (simp; done) | (simp [*]; done) | omega | (simp; omega) | (rw [IntKind.wrap_i64]; omega) | (intro hx; omega) | rfl)
      simp only [Act.put, List.setIfInBounds_toArray, List.set_cons_zero, List.set_cons_succ]
      refine qw_run (v := .agg #[.int .i64 db, u]) (by rfl) ?_ ?_
      · (intro w9 hC; obtain ⟨c0, c1, -⟩ := HRn.out w9 hC; clear hC; go_simp; first | done | (simp; done) | (simp [*]; done) | omega | (simp; omega) | (rw [IntKind.wrap_i64]; omega) | (intro hx; omega) | rfl)
      simp only [Act.put, List.setIfInBounds_toArray, List.set_cons_zero, List.set_cons_succ]
      refine qw_run (v := .agg #[.int .i64 b, .slice vb R.length vc]) (by rfl) ?_ ?_
      · (intro w9 hC; have c0 := at_16 hC.n 0 _ rfl; have c1 := at_16 hC.n 1 _ rfl; clear hC; go_simp; first | done | (simp; done) | (simp [*]; done) | omega | (simp; omega) | (rw [IntKind.wrap_i64]; omega) | (intro hx; omega) | rfl)
      simp only [Act.put, List.setIfInBounds_toArray, List.set_cons_zero, List.set_cons_succ]
      refine qw_call (v := .bool t) (f := 74) (args := #[.agg #[.int .i64 db, u], .agg #[.int .i64 b, .slice vb R.length vc]]) (by rfl) ?_ ?_ ?_
      · (intro w9 hC; clear hC; go_simp; first | done | (simp; done) | rfl)
      · exact fun w9 hC => (KS.out w9 hC).mono fun e w' ⟨he, hb⟩ => ⟨he, hC.below hb⟩
      simp only [Act.put, List.setIfInBounds_toArray, List.set_cons_zero, List.set_cons_succ]
      refine qw_nil ?_
      (try simp only [putAll, Act.put, List.setIfInBounds_toArray, List.set_cons_zero, List.set_cons_succ])
      intro Y hY
      cases t with
      | true =>
        have HF : Hid (adI NL D = (xn : Int) ∧ adN NL D = NL) := hid13 (by
          have h9 : fsQ NL D (bkG D NL 0) = some (xn : Int) := by rw [HBk.out, ← HS.out.2, HD.out]; rfl
          unfold adI adN
          rw [h9]
          exact ⟨rfl, rfl⟩)
        have HY := hid13 hY
        clear hY o0
        go_wp2
        exact bodyPost_ret (v := .int .i64 (xn : Int)) (by simp [results, Try.results48, go_sem]) rfl ⟨by rw [HF.out.1], ⟨_, _, _, _, by rw [HF.out.2]; exact HY.out.j⟩, HY.out.f⟩
      | false =>
        have HY := hid13 hY
        have HE : Hid (fsQ NL D (bk.drop (k + 1)) = fsQ NL D bk) := hid13 (by rw [← HS.out.2, HD.out]; rfl)
        clear hY o0
        go_wp2
        go_roundg (gk - 1)
        case measure => have := HJ.out; omega
        case rel => exact ⟨k + 1, by have := HJ.out; omega, rfl, hid13 ⟨HY.out, HE.out⟩⟩
    · have hke : k = bk.length := by omega
      have HNo : Hid (fsQ NL D bk = none) := hid13 (by
        have h9 := HS.out.2
        rw [hke, List.drop_length] at h9
        exact h9.symm)
      have HF : Hid (adI NL D = (NL.length : Int) ∧ adN NL D = NL ++ [D]) := hid13 (by
        unfold adI adN
        rw [HBk.out, HNo.out]
        exact ⟨rfl, rfl⟩)
      have HA := hid13 HS.out.1
      obtain ⟨bo, bc, hvn⟩ := own_form HS.out.1.j.n.o
      subst hvn
      have p0 := at_16 HA.out.p 0 _ rfl
      have j0 := at_16 HA.out.j.j 0 _ rfl
      have HA9 := hid13 (HA.out.below (Below.refl wr.heap.size wr).drew)
      have p0' := at_16 HA9.out.p 0 _ rfl
      clear hke hk HS HNo
      go_wp2_with fail
      have HM : Hid (NL.length ≤ 1000000) := HL.out.2.1
      have HR1 : Hid (RG (fun X => AdV w base B Gf M b (.slice vb R.length vc) R KB (.slice bo NL.length bc) V NL OF NL es clock X) (NwD [.int .i64 b, .slice vb R.length vc]) (fun gg cp X => ∃ X0, AdV w base B Gf M b (.slice vb R.length vc) R KB (.slice bo NL.length bc) V NL OF NL es clock X0 ∧ X0.grownBy X (Value.ownBlock (.slice bo NL.length bc)) ∧ X.ownsRow base 57 2 (.slice (some ⟨gg, 0, none⟩) (NL.length + 1) cp) (NL.length + 1) (rowD NL V ++ [.int .i64 b, .slice vb R.length vc])) (fun gg cp X => AdW w base B Gf M b R KB (.slice (some ⟨gg, 0, none⟩) (NL.length + 1) cp) (V ++ [.slice vb R.length vc]) (NL ++ [D]) OF NL es clock X) (fun X => X.cell? ⟨w.heap.size, 0, none⟩ = some (.pointer (some ⟨B, 0, none⟩)) ∧ X.cell? ⟨w.heap.size + 1, 0, none⟩ = some (.int .i64 b) ∧ X.cell? ⟨w.heap.size + 1, 1, none⟩ = some (.slice vb R.length vc)) false false false false (0, (0, 0)) wr.drew) := hid13 (RG.start ⟨p0', at_16 HA9.out.n 0 _ rfl, at_16 HA9.out.n 1 _ rfl⟩ HA9.out)
      clear p0 j0 p0'
      refine gh_region (γ := Nat × (Nat × Nat)) (qpOk 11 11 (by decide) (fun N => by kernel_rfl) (by kernel_rfl) (by kernel_rfl) (by kernel_rfl) (by kernel_rfl)) (by kernel_rfl) (by kernel_rfl) [some 41, some 42, some 43, some 44, some 45, some 46, some 47, some 48, some 49, some 50, none] (fun g => [.pointer (some ⟨B, 0, none⟩), .pointer (some ⟨B, 0, none⟩), .pointer (some ⟨B, 0, none⟩), .pointer (some ⟨B, 0, none⟩), .slice bo NL.length bc, .agg #[.int .i64 b, .slice vb R.length vc], .slice (some ⟨g.1, 0, none⟩) 1 1, .slice (some ⟨g.2.1, 0, none⟩) (NL.length + 1) g.2.2, .pointer (some ⟨B, 0, none⟩), .pointer (some ⟨B, 0, none⟩), undef]) (by kernel_rfl) (by simp) (fun lp g X => RG (fun X => AdV w base B Gf M b (.slice vb R.length vc) R KB (.slice bo NL.length bc) V NL OF NL es clock X) (NwD [.int .i64 b, .slice vb R.length vc]) (fun gg cp X => ∃ X0, AdV w base B Gf M b (.slice vb R.length vc) R KB (.slice bo NL.length bc) V NL OF NL es clock X0 ∧ X0.grownBy X (Value.ownBlock (.slice bo NL.length bc)) ∧ X.ownsRow base 57 2 (.slice (some ⟨gg, 0, none⟩) (NL.length + 1) cp) (NL.length + 1) (rowD NL V ++ [.int .i64 b, .slice vb R.length vc])) (fun gg cp X => AdW w base B Gf M b R KB (.slice (some ⟨gg, 0, none⟩) (NL.length + 1) cp) (V ++ [.slice vb R.length vc]) (NL ++ [D]) OF NL es clock X) (fun X => X.cell? ⟨w.heap.size, 0, none⟩ = some (.pointer (some ⟨B, 0, none⟩)) ∧ X.cell? ⟨w.heap.size + 1, 0, none⟩ = some (.int .i64 b) ∧ X.cell? ⟨w.heap.size + 1, 1, none⟩ = some (.slice vb R.length vc)) (lp.getD 4 false) (lp.getD 6 false) (lp.getD 7 false) (lp.getD 10 false) g X) (0, (0, 0)) HR1.out ?step1 ?fin1
      case step1 =>
        intro q o lp g w' a' ho hsz hun hdep hR hS K Q' hK
        have hfl : ∀ j, j ≠ q → (lp.setIfInBounds q true).getD j false = lp.getD j false := fun j hj => by rw [Array.getD_eq_getD_getElem?, Array.getD_eq_getD_getElem?, Array.getElem?_setIfInBounds_ne (by omega)]
        have hq : q < 11 := (List.getElem?_eq_some_iff.mp ho).1
        match q, ho, hun, hdep, hK, hfl, hq with
        | 0, ho, hun, hdep, hK, hfl, _ =>
          obtain rfl := Option.some.inj ho
          have o2 : a'.tmps[2]? = some (.pointer (some ⟨w.heap.size, 0, none⟩)) := (hS.old14 2 (by simp)).trans rfl
          have k1 := hR.r.1
          have hK' := hK g w' (fun _ _ _ _ _ _ => rfl) (by rw [hfl 4 (by decide), hfl 6 (by decide), hfl 7 (by decide), hfl 10 (by decide)]; exact hR) (.pointer (some ⟨B, 0, none⟩)) (by simp only [valO, Option.bind_some]; (try simp only [putAll, Act.put, List.setIfInBounds_toArray, List.set_cons_zero, List.set_cons_succ]); (try rfl))
          clear hS hdep hR
          refine gh_quiet14 (v := .pointer (some ⟨B, 0, none⟩)) ?_ ?_
          · (simp only [execOp, Act.eval, o2]; go_simp; first | done | (simp; done) | (simp [*]; done) | omega | (rw [IntKind.wrap_i64]; omega))
          · exact hK'
        | 1, ho, hun, hdep, hK, hfl, _ =>
          obtain rfl := Option.some.inj ho
          have o2 : a'.tmps[2]? = some (.pointer (some ⟨w.heap.size, 0, none⟩)) := (hS.old14 2 (by simp)).trans rfl
          have k1 := hR.r.1
          have hK' := hK g w' (fun _ _ _ _ _ _ => rfl) (by rw [hfl 4 (by decide), hfl 6 (by decide), hfl 7 (by decide), hfl 10 (by decide)]; exact hR) (.pointer (some ⟨B, 0, none⟩)) (by simp only [valO, Option.bind_some]; (try simp only [putAll, Act.put, List.setIfInBounds_toArray, List.set_cons_zero, List.set_cons_succ]); (try rfl))
          clear hS hdep hR
          refine gh_quiet14 (v := .pointer (some ⟨B, 0, none⟩)) ?_ ?_
          · (simp only [execOp, Act.eval, o2]; go_simp; first | done | (simp; done) | (simp [*]; done) | omega | (rw [IntKind.wrap_i64]; omega))
          · exact hK'
        | 2, ho, hun, hdep, hK, hfl, _ =>
          obtain rfl := Option.some.inj ho
          have d1 : lp.getD 1 false = true := hdep { on := 1, ground := .data } (by simp) rfl
          have e42 : a'.tmps[42]? = some (.pointer (some ⟨B, 0, none⟩)) := (hS.don 1 _ 42 rfl d1 rfl).trans (by simp only [putAll, Act.put, List.setIfInBounds_toArray, List.set_cons_zero, List.set_cons_succ]; rfl)
          have hK' := hK g w' (fun _ _ _ _ _ _ => rfl) (by rw [hfl 4 (by decide), hfl 6 (by decide), hfl 7 (by decide), hfl 10 (by decide)]; exact hR) (.pointer (some ⟨B, 0, none⟩)) (by simp only [valO, Option.bind_some]; (try simp only [putAll, Act.put, List.setIfInBounds_toArray, List.set_cons_zero, List.set_cons_succ]); (try rfl))
          clear hS hdep hR
          refine gh_quiet14 (v := .pointer (some ⟨B, 0, none⟩)) ?_ ?_
          · (simp only [execOp, Act.eval, e42]; go_simp; first | done | (simp; done) | (simp [*]; done) | omega | (rw [IntKind.wrap_i64]; omega))
          · exact hK'
        | 3, ho, hun, hdep, hK, hfl, _ =>
          obtain rfl := Option.some.inj ho
          have d2 : lp.getD 2 false = true := hdep { on := 2, ground := .data } (by simp) rfl
          have e43 : a'.tmps[43]? = some (.pointer (some ⟨B, 0, none⟩)) := (hS.don 2 _ 43 rfl d2 rfl).trans (by simp only [putAll, Act.put, List.setIfInBounds_toArray, List.set_cons_zero, List.set_cons_succ]; rfl)
          have hK' := hK g w' (fun _ _ _ _ _ _ => rfl) (by rw [hfl 4 (by decide), hfl 6 (by decide), hfl 7 (by decide), hfl 10 (by decide)]; exact hR) (.pointer (some ⟨B, 0, none⟩)) (by simp only [valO, Option.bind_some]; (try simp only [putAll, Act.put, List.setIfInBounds_toArray, List.set_cons_zero, List.set_cons_succ]); (try rfl))
          clear hS hdep hR
          refine gh_quiet14 (v := .pointer (some ⟨B, 0, none⟩)) ?_ ?_
          · (simp only [execOp, Act.eval, e43]; go_simp; first | done | (simp; done) | (simp [*]; done) | omega | (rw [IntKind.wrap_i64]; omega))
          · exact hK'
        | 4, ho, hun, hdep, hK, hfl, _ =>
          obtain rfl := Option.some.inj ho
          have d3 : lp.getD 3 false = true := hdep { on := 3, ground := .data } (by simp) rfl
          have e44 : a'.tmps[44]? = some (.pointer (some ⟨B, 0, none⟩)) := (hS.don 3 _ 44 rfl d3 rfl).trans (by simp only [putAll, Act.put, List.setIfInBounds_toArray, List.set_cons_zero, List.set_cons_succ]; rfl)
          have k1 := at_16 (hR.nld hun).j.j 0 _ rfl
          have hK' := hK g w' (fun _ _ _ _ _ _ => rfl) (by rw [hfl 6 (by decide), hfl 7 (by decide), hfl 10 (by decide), getD_set_same (by rw [hsz]; decide)]; exact hR.setld) (.slice bo NL.length bc) (by simp only [valO, Option.bind_some]; (try simp only [putAll, Act.put, List.setIfInBounds_toArray, List.set_cons_zero, List.set_cons_succ]); (try rfl))
          clear hS hdep hR
          refine gh_quiet14 (v := .slice bo NL.length bc) ?_ ?_
          · (simp only [execOp, Act.eval, e44]; go_simp; first | done | (simp; done) | (simp [*]; done) | omega | (rw [IntKind.wrap_i64]; omega))
          · exact hK'
        | 5, ho, hun, hdep, hK, hfl, _ =>
          obtain rfl := Option.some.inj ho
          have o3 : a'.tmps[3]? = some (.pointer (some ⟨w.heap.size + 1, 0, none⟩)) := (hS.old14 3 (by simp)).trans rfl
          have k1 := hR.r.2.1
          have k2 := hR.r.2.2
          have hK' := hK g w' (fun _ _ _ _ _ _ => rfl) (by rw [hfl 4 (by decide), hfl 6 (by decide), hfl 7 (by decide), hfl 10 (by decide)]; exact hR) (.agg #[.int .i64 b, .slice vb R.length vc]) (by simp only [valO, Option.bind_some]; (try simp only [putAll, Act.put, List.setIfInBounds_toArray, List.set_cons_zero, List.set_cons_succ]); (try rfl))
          clear hS hdep hR
          refine gh_quiet14 (v := .agg #[.int .i64 b, .slice vb R.length vc]) ?_ ?_
          · (simp only [execOp, Act.eval, o3]; go_simp; first | done | (simp; done) | (simp [*]; done) | omega | (rw [IntKind.wrap_i64]; omega))
          · exact hK'
        | 6, ho, hun, hdep, hK, hfl, _ =>
          obtain rfl := Option.some.inj ho
          have d5 : lp.getD 5 false = true := hdep { on := 5, ground := .data } (by simp) rfl
          have e46 : a'.tmps[46]? = some (.agg #[.int .i64 b, .slice vb R.length vc]) := (hS.don 5 _ 46 rfl d5 rfl).trans (by simp only [putAll, Act.put, List.setIfInBounds_toArray, List.set_cons_zero, List.set_cons_succ]; rfl)
          have a1 := hR.nbd hun
          have q := bl1 w' (.cells #[.int .i64 b, .slice vb R.length vc] 57)
          have hK' := hK (w'.heap.size, g.2) (w'.alloc (.cells #[.int .i64 b, .slice vb R.length vc] 57)) (fun k' ok s hk hl hd => gh_same14 (d := 47) (s := s) (by simp only [putAll, Act.put, List.setIfInBounds_toArray, List.set_cons_zero, List.set_cons_succ]; rfl) (by rintro rfl; have := dstG_of (by kernel_rfl) k' 6 ok _ 47 hk rfl hd rfl; subst this; rw [hun] at hl; cases hl)) (by rw [hfl 4 (by decide), hfl 7 (by decide), hfl 10 (by decide), getD_set_same (by rw [hsz]; decide)]; exact hR.build hun ⟨keepc q hR.r.1, keepc q hR.r.2.1, keepc q hR.r.2.2⟩ (a1.below q) (newsD18 w' _ _ _ _ rfl)) (.slice (some ⟨w'.heap.size, 0, none⟩) 1 1) (by simp only [valO, Option.bind_some]; simp only [putAll, Act.put, List.setIfInBounds_toArray, List.set_cons_zero, List.set_cons_succ]; rfl)
          clear hS hdep hR hK a1 q
          unfold Oper.wp
          simp only [execOp, Act.eval, Array.getD_eq_getD_getElem?]
          simp [go_sem, e46, Oper.upon]
          exact hK'
        | 7, ho, hun, hdep, hK, hfl, _ =>
          obtain rfl := Option.some.inj ho
          have d4 : lp.getD 4 false = true := hdep { on := 4, ground := .data } (by simp) rfl
          have e45 : a'.tmps[45]? = some (.slice bo NL.length bc) := (hS.don 4 _ 45 rfl d4 rfl).trans (by simp only [putAll, Act.put, List.setIfInBounds_toArray, List.set_cons_zero, List.set_cons_succ]; rfl)
          have d6 : lp.getD 6 false = true := hdep { on := 6, ground := .data } (by simp) rfl
          have e47 : a'.tmps[47]? = some (.slice (some ⟨g.1, 0, none⟩) 1 1) := (hS.don 6 _ 47 rfl d6 rfl).trans (by simp only [putAll, Act.put, List.setIfInBounds_toArray, List.set_cons_zero, List.set_cons_succ]; rfl)
          have a1 := hR.a hun
          have hN := hR.d d6 hun
          refine wp_append_lies w' (.tmp 45) (.tmp 47) 22 rfl base 57 j0 (.agg #[.int .i64 0, .slice none 0 0]) 2 32 Try.underlying22 ji jz0 jz1 jz2 rfl (by decide) (.slice bo NL.length bc) NL.length (rowD NL V) (by simp [Act.eval, e45]) a1.j.n.o ⟨g.1, 0, none⟩ 1 1 [.int .i64 b, .slice vb R.length vc] (by simp [Act.eval, e47]) rfl hN (two_one16 _ _ _ _) (by decide) (by unfold maxLen; have := HM.out; omega) (by have := HM.out; omega) a1.j.lob _ rfl ?_
          intro gg cp W5 ho hg hat _
          have ty : ∀ {z : Nat} {cs : Array Value} {T : TypeId}, w'.heap[z]? = some (.cells cs T) → 57 ≠ T → W5.heap[z]? = some (.cells cs T) := fun hz hT => (hg.block _ (lt_16 hz) (fun q => own_not18 a1.j.n.o hz hT q.symm)).trans hz
          have hnn : W5.heap[w.heap.size + 1]? = some (.cells #[.int .i64 b, .slice vb R.length vc] 57) := (hg.block _ (lt_16 a1.n) (fun q => by have := a1.s _ q.symm; omega)).trans a1.n
          exact hK (g.1, (gg, cp)) W5 (fun k' ok s hk hl hd => gh_same14 (d := 48) (s := s) (by simp only [putAll, Act.put, List.setIfInBounds_toArray, List.set_cons_zero, List.set_cons_succ]; rfl) (by rintro rfl; have := dstG_of (by kernel_rfl) k' 7 ok _ 48 hk rfl hd rfl; subst this; rw [hun] at hl; cases hl)) (by rw [hfl 4 (by decide), hfl 6 (by decide), hfl 10 (by decide), getD_set_same (by rw [hsz]; decide)]; exact hR.app hun d4 d6 ⟨at_16 (ty a1.p (by decide)) 0 _ rfl, at_16 hnn 0 _ rfl, at_16 hnn 1 _ rfl⟩ ⟨w', a1, hg, ho⟩) _ (by simp only [valO, Option.bind_some]; simp only [putAll, Act.put, List.setIfInBounds_toArray, List.set_cons_zero, List.set_cons_succ]; rfl)
        | 8, ho, hun, hdep, hK, hfl, _ =>
          obtain rfl := Option.some.inj ho
          have d0 : lp.getD 0 false = true := hdep { on := 0, ground := .data } (by simp) rfl
          have e41 : a'.tmps[41]? = some (.pointer (some ⟨B, 0, none⟩)) := (hS.don 0 _ 41 rfl d0 rfl).trans (by simp only [putAll, Act.put, List.setIfInBounds_toArray, List.set_cons_zero, List.set_cons_succ]; rfl)
          have hK' := hK g w' (fun _ _ _ _ _ _ => rfl) (by rw [hfl 4 (by decide), hfl 6 (by decide), hfl 7 (by decide), hfl 10 (by decide)]; exact hR) (.pointer (some ⟨B, 0, none⟩)) (by simp only [valO, Option.bind_some]; (try simp only [putAll, Act.put, List.setIfInBounds_toArray, List.set_cons_zero, List.set_cons_succ]); (try rfl))
          clear hS hdep hR
          refine gh_quiet14 (v := .pointer (some ⟨B, 0, none⟩)) ?_ ?_
          · (simp only [execOp, Act.eval, e41]; go_simp; first | done | (simp; done) | (simp [*]; done) | omega | (rw [IntKind.wrap_i64]; omega))
          · exact hK'
        | 9, ho, hun, hdep, hK, hfl, _ =>
          obtain rfl := Option.some.inj ho
          have d8 : lp.getD 8 false = true := hdep { on := 8, ground := .data } (by simp) rfl
          have e49 : a'.tmps[49]? = some (.pointer (some ⟨B, 0, none⟩)) := (hS.don 8 _ 49 rfl d8 rfl).trans (by simp only [putAll, Act.put, List.setIfInBounds_toArray, List.set_cons_zero, List.set_cons_succ]; rfl)
          have hK' := hK g w' (fun _ _ _ _ _ _ => rfl) (by rw [hfl 4 (by decide), hfl 6 (by decide), hfl 7 (by decide), hfl 10 (by decide)]; exact hR) (.pointer (some ⟨B, 0, none⟩)) (by simp only [valO, Option.bind_some]; (try simp only [putAll, Act.put, List.setIfInBounds_toArray, List.set_cons_zero, List.set_cons_succ]); (try rfl))
          clear hS hdep hR
          refine gh_quiet14 (v := .pointer (some ⟨B, 0, none⟩)) ?_ ?_
          · (simp only [execOp, Act.eval, e49]; go_simp; first | done | (simp; done) | (simp [*]; done) | omega | (rw [IntKind.wrap_i64]; omega))
          · exact hK'
        | 10, ho, hun, hdep, hK, hfl, _ =>
          obtain rfl := Option.some.inj ho
          have d9 : lp.getD 9 false = true := hdep { on := 9, ground := .data } (by simp) rfl
          have e50 : a'.tmps[50]? = some (.pointer (some ⟨B, 0, none⟩)) := (hS.don 9 _ 50 rfl d9 rfl).trans (by simp only [putAll, Act.put, List.setIfInBounds_toArray, List.set_cons_zero, List.set_cons_succ]; rfl)
          have d7 : lp.getD 7 false = true := hdep { on := 7, ground := .data } (by simp) rfl
          have e48 : a'.tmps[48]? = some (.slice (some ⟨g.2.1, 0, none⟩) (NL.length + 1) g.2.2) := (hS.don 7 _ 48 rfl d7 rfl).trans (by simp only [putAll, Act.put, List.setIfInBounds_toArray, List.set_cons_zero, List.set_cons_succ]; rfl)
          obtain ⟨X0, b1, b2, b3⟩ := hR.c d7 hun
          obtain ⟨hN, k1, kf⟩ := b1.push12 b2 b3
          rw [← HDe.out] at hN
          have hnn : (w'.setCell ⟨B, 0, none⟩ (.slice (some ⟨g.2.1, 0, none⟩) (NL.length + 1) g.2.2)).heap[w.heap.size + 1]? = some (.cells #[.int .i64 b, .slice vb R.length vc] 57) := by
            have h8 : w'.heap[w.heap.size + 1]? = some (.cells #[.int .i64 b, .slice vb R.length vc] 57) := (b2.block _ (lt_16 b1.n) (fun q => by have := b1.s _ q.symm; omega)).trans b1.n
            refine (far_16 (fun q => ?_)).trans h8
            have h9 := b1.n
            rw [q, b1.j.j] at h9
            injection h9 with h9
            injection h9 with _ h9 _
            exact absurd h9 (by decide)
          have hK' := hK g (w'.setCell ⟨B, 0, none⟩ (.slice (some ⟨g.2.1, 0, none⟩) (NL.length + 1) g.2.2)) (fun _ _ _ _ _ _ => rfl) (by rw [hfl 4 (by decide), hfl 6 (by decide), hfl 7 (by decide), getD_set_same (by rw [hsz]; decide)]; exact hR.sto d7 ⟨at_16 hN.p 0 _ rfl, at_16 hnn 0 _ rfl, at_16 hnn 1 _ rfl⟩ hN) undef rfl
          clear hS hdep hR hK b1 b2 b3 hN hnn
          unfold Oper.wp
          simp only [execOp, Act.eval, Array.getD_eq_getD_getElem?]
          simp [go_sem, e50, e48, k1, kf, Oper.upon]
          exact hK'
        | n + 11, ho, hun, hdep, hK, hfl, hq => exact absurd hq (by omega)
      case fin1 =>
        intro g V8 hR
        have e1 := hR.e (by simp)
        simp only [putAll, Act.put, List.setIfInBounds_toArray, List.set_cons_zero, List.set_cons_succ]
        have HW8 := hid13 e1
        clear hR e1 HR1
        obtain ⟨z1, gg, cp⟩ := g
        dsimp only at HW8
        obtain ⟨ev, est, es1, ck1, hE⟩ := HW8.out.j.k.ent D HKy.out
        have HE := hid13 hE
        have hoD : oV D = .agg #[.int .i64 b, .int .i64 (R.length : Int), .int .u64 (smI R)] := by rw [HDe.out]; rfl
        have HKr := hid13 (fun X (h : AdW w base B Gf M b R KB (.slice (some ⟨gg, 0, none⟩) (NL.length + 1) cp) (V ++ [.slice vb R.length vc]) (NL ++ [D]) OF NL es clock X) => by
          have h9 := HE.out.run X h.j.k
          rw [hoD, HBk.out] at h9
          exact h9)
        obtain ⟨eo, ec, hev⟩ := own_form (HKr.out V8 HW8.out).2
        subst hev
        have HW9 := hid13 (HW8.out.below (Below.refl V8.heap.size V8).drew)
        have p0 := at_16 HW8.out.p 0 _ rfl
        have HR2 : Hid (RM (fun X => AdW w base B Gf M b R KB (.slice (some ⟨gg, 0, none⟩) (NL.length + 1) cp) (V ++ [.slice vb R.length vc]) (NL ++ [D]) OF NL es clock X) (fun X => AdE w base B Gf M b R KB (.slice (some ⟨gg, 0, none⟩) (NL.length + 1) cp) (V ++ [.slice vb R.length vc]) (NL ++ [D]) OF NL es clock es1 ck1 (.slice eo bk.length ec) bk X) (NwD [.int .i64 (NL.length : Int)]) (fun g2 c2 X => AdC w base B Gf M b R KB (.slice (some ⟨gg, 0, none⟩) (NL.length + 1) cp) (V ++ [.slice vb R.length vc]) (NL ++ [D]) OF NL es clock es1 ck1 (.slice eo bk.length ec) bk (NL.length : Int) g2 c2 X) (fun X => ∃ es2 ck2, JnV base B Gf M (.slice (some ⟨gg, 0, none⟩) (NL.length + 1) cp) (V ++ [.slice vb R.length vc]) (NL ++ [D]) OF (NL ++ [D]) es2 ck2 X ∧ KJ base M B w X) (fun X => X.heap[w.heap.size]? = some (.cells #[.pointer (some ⟨B, 0, none⟩)] 118) ∧ X.heap[B]? = some (.cells #[.slice (some ⟨gg, 0, none⟩) (NL.length + 1) cp, .slice (some ⟨Gf, 0, none⟩) OF.length OF.length, .map (some M)] 64) ∧ X.heap[KB]? = some (.cells #[.int .i64 b, .int .i64 (R.length : Int), .int .u64 (smI R)] 120)) false false false false (0, (0, 0)) V8.drew) := hid13 (RM.start ⟨HW9.out.p, HW9.out.j.j, HW9.out.c⟩ HW9.out)
        clear hE hoD p0
        go_wp2_with fail
        refine gh_region (γ := Nat × (Nat × Nat)) (qpOk 12 12 (by decide) (fun N => by kernel_rfl) (by kernel_rfl) (by kernel_rfl) (by kernel_rfl) (by kernel_rfl)) (by kernel_rfl) (by kernel_rfl) [some 51, some 52, some 53, some 54, some 55, some 57, some 58, some 59, some 56, some 60, some 61, none] (fun g => [.pointer (some ⟨B, 0, none⟩), .pointer (some ⟨B, 0, none⟩), .pointer (some ⟨B, 2, none⟩), .map (some M), .agg #[.int .i64 b, .int .i64 (R.length : Int), .int .u64 (smI R)], .int .i64 (NL.length : Int), .slice (some ⟨g.1, 0, none⟩) 1 1, .tuple #[.slice eo bk.length ec, .int .i64 est], .slice eo bk.length ec, .slice (some ⟨g.2.1, 0, none⟩) (bk.length + 1) g.2.2, .int .i64 est, undef]) (by kernel_rfl) (by simp) (fun lp g X => RM (fun X => AdW w base B Gf M b R KB (.slice (some ⟨gg, 0, none⟩) (NL.length + 1) cp) (V ++ [.slice vb R.length vc]) (NL ++ [D]) OF NL es clock X) (fun X => AdE w base B Gf M b R KB (.slice (some ⟨gg, 0, none⟩) (NL.length + 1) cp) (V ++ [.slice vb R.length vc]) (NL ++ [D]) OF NL es clock es1 ck1 (.slice eo bk.length ec) bk X) (NwD [.int .i64 (NL.length : Int)]) (fun g2 c2 X => AdC w base B Gf M b R KB (.slice (some ⟨gg, 0, none⟩) (NL.length + 1) cp) (V ++ [.slice vb R.length vc]) (NL ++ [D]) OF NL es clock es1 ck1 (.slice eo bk.length ec) bk (NL.length : Int) g2 c2 X) (fun X => ∃ es2 ck2, JnV base B Gf M (.slice (some ⟨gg, 0, none⟩) (NL.length + 1) cp) (V ++ [.slice vb R.length vc]) (NL ++ [D]) OF (NL ++ [D]) es2 ck2 X ∧ KJ base M B w X) (fun X => X.heap[w.heap.size]? = some (.cells #[.pointer (some ⟨B, 0, none⟩)] 118) ∧ X.heap[B]? = some (.cells #[.slice (some ⟨gg, 0, none⟩) (NL.length + 1) cp, .slice (some ⟨Gf, 0, none⟩) OF.length OF.length, .map (some M)] 64) ∧ X.heap[KB]? = some (.cells #[.int .i64 b, .int .i64 (R.length : Int), .int .u64 (smI R)] 120)) (lp.getD 7 false) (lp.getD 6 false) (lp.getD 9 false) (lp.getD 11 false) g X) (0, (0, 0)) HR2.out ?step2 ?fin2
        case step2 =>
          intro q o lp g w' a' ho hsz hun hdep hR hS K Q' hK
          have hfl : ∀ j, j ≠ q → (lp.setIfInBounds q true).getD j false = lp.getD j false := fun j hj => by rw [Array.getD_eq_getD_getElem?, Array.getD_eq_getD_getElem?, Array.getElem?_setIfInBounds_ne (by omega)]
          have hq : q < 12 := (List.getElem?_eq_some_iff.mp ho).1
          match q, ho, hun, hdep, hK, hfl, hq with
          | 0, ho, hun, hdep, hK, hfl, _ =>
            obtain rfl := Option.some.inj ho
            have o2 : a'.tmps[2]? = some (.pointer (some ⟨w.heap.size, 0, none⟩)) := (hS.old14 2 (by simp)).trans rfl
            have k1 := at_16 hR.r.1 0 _ rfl
            have hK' := hK g w' (fun _ _ _ _ _ _ => rfl) (by rw [hfl 6 (by decide), hfl 7 (by decide), hfl 9 (by decide), hfl 11 (by decide)]; exact hR) (.pointer (some ⟨B, 0, none⟩)) (by simp only [valO, Option.bind_some]; (try simp only [putAll, Act.put, List.setIfInBounds_toArray, List.set_cons_zero, List.set_cons_succ]); (try rfl))
            clear hS hdep hR
            refine gh_quiet14 (v := .pointer (some ⟨B, 0, none⟩)) ?_ ?_
            · (simp only [execOp, Act.eval, o2]; go_simp; first | done | (simp; done) | (simp [*]; done) | omega | (rw [IntKind.wrap_i64]; omega))
            · exact hK'
          | 1, ho, hun, hdep, hK, hfl, _ =>
            obtain rfl := Option.some.inj ho
            have d0 : lp.getD 0 false = true := hdep { on := 0, ground := .data } (by simp) rfl
            have e51 : a'.tmps[51]? = some (.pointer (some ⟨B, 0, none⟩)) := (hS.don 0 _ 51 rfl d0 rfl).trans (by simp only [putAll, Act.put, List.setIfInBounds_toArray, List.set_cons_zero, List.set_cons_succ]; rfl)
            have hK' := hK g w' (fun _ _ _ _ _ _ => rfl) (by rw [hfl 6 (by decide), hfl 7 (by decide), hfl 9 (by decide), hfl 11 (by decide)]; exact hR) (.pointer (some ⟨B, 0, none⟩)) (by simp only [valO, Option.bind_some]; (try simp only [putAll, Act.put, List.setIfInBounds_toArray, List.set_cons_zero, List.set_cons_succ]); (try rfl))
            clear hS hdep hR
            refine gh_quiet14 (v := .pointer (some ⟨B, 0, none⟩)) ?_ ?_
            · (simp only [execOp, Act.eval, e51]; go_simp; first | done | (simp; done) | (simp [*]; done) | omega | (rw [IntKind.wrap_i64]; omega))
            · exact hK'
          | 2, ho, hun, hdep, hK, hfl, _ =>
            obtain rfl := Option.some.inj ho
            have d1 : lp.getD 1 false = true := hdep { on := 1, ground := .data } (by simp) rfl
            have e52 : a'.tmps[52]? = some (.pointer (some ⟨B, 0, none⟩)) := (hS.don 1 _ 52 rfl d1 rfl).trans (by simp only [putAll, Act.put, List.setIfInBounds_toArray, List.set_cons_zero, List.set_cons_succ]; rfl)
            have hK' := hK g w' (fun _ _ _ _ _ _ => rfl) (by rw [hfl 6 (by decide), hfl 7 (by decide), hfl 9 (by decide), hfl 11 (by decide)]; exact hR) (.pointer (some ⟨B, 2, none⟩)) (by simp only [valO, Option.bind_some]; (try simp only [putAll, Act.put, List.setIfInBounds_toArray, List.set_cons_zero, List.set_cons_succ]); (try rfl))
            clear hS hdep hR
            refine gh_quiet14 (v := .pointer (some ⟨B, 2, none⟩)) ?_ ?_
            · (simp only [execOp, Act.eval, e52]; go_simp; first | done | (simp; done) | (simp [*]; done) | omega | (rw [IntKind.wrap_i64]; omega))
            · exact hK'
          | 3, ho, hun, hdep, hK, hfl, _ =>
            obtain rfl := Option.some.inj ho
            have d2 : lp.getD 2 false = true := hdep { on := 2, ground := .data } (by simp) rfl
            have e53 : a'.tmps[53]? = some (.pointer (some ⟨B, 2, none⟩)) := (hS.don 2 _ 53 rfl d2 rfl).trans (by simp only [putAll, Act.put, List.setIfInBounds_toArray, List.set_cons_zero, List.set_cons_succ]; rfl)
            have k1 := at_16 hR.r.2.1 2 _ rfl
            have hK' := hK g w' (fun _ _ _ _ _ _ => rfl) (by rw [hfl 6 (by decide), hfl 7 (by decide), hfl 9 (by decide), hfl 11 (by decide)]; exact hR) (.map (some M)) (by simp only [valO, Option.bind_some]; (try simp only [putAll, Act.put, List.setIfInBounds_toArray, List.set_cons_zero, List.set_cons_succ]); (try rfl))
            clear hS hdep hR
            refine gh_quiet14 (v := .map (some M)) ?_ ?_
            · (simp only [execOp, Act.eval, e53]; go_simp; first | done | (simp; done) | (simp [*]; done) | omega | (rw [IntKind.wrap_i64]; omega))
            · exact hK'
          | 4, ho, hun, hdep, hK, hfl, _ =>
            obtain rfl := Option.some.inj ho
            have o5 : a'.tmps[5]? = some (.pointer (some ⟨KB, 0, none⟩)) := (hS.old14 5 (by simp)).trans rfl
            have k1 := at_16 hR.r.2.2 0 _ rfl
            have k2 := at_16 hR.r.2.2 1 _ rfl
            have k3 := at_16 hR.r.2.2 2 _ rfl
            have hK' := hK g w' (fun _ _ _ _ _ _ => rfl) (by rw [hfl 6 (by decide), hfl 7 (by decide), hfl 9 (by decide), hfl 11 (by decide)]; exact hR) (.agg #[.int .i64 b, .int .i64 (R.length : Int), .int .u64 (smI R)]) (by simp only [valO, Option.bind_some]; (try simp only [putAll, Act.put, List.setIfInBounds_toArray, List.set_cons_zero, List.set_cons_succ]); (try rfl))
            clear hS hdep hR
            refine gh_quiet14 (v := .agg #[.int .i64 b, .int .i64 (R.length : Int), .int .u64 (smI R)]) ?_ ?_
            · (simp only [execOp, Act.eval, o5]; go_simp; first | done | (simp; done) | (simp [*]; done) | omega | (rw [IntKind.wrap_i64]; omega))
            · exact hK'
          | 5, ho, hun, hdep, hK, hfl, _ =>
            obtain rfl := Option.some.inj ho
            have o8 : a'.tmps[8]? = some (.int .i64 (NL.length : Int)) := (hS.old14 8 (by simp)).trans rfl
            have hK' := hK g w' (fun _ _ _ _ _ _ => rfl) (by rw [hfl 6 (by decide), hfl 7 (by decide), hfl 9 (by decide), hfl 11 (by decide)]; exact hR) (.int .i64 (NL.length : Int)) (by simp only [valO, Option.bind_some]; (try simp only [putAll, Act.put, List.setIfInBounds_toArray, List.set_cons_zero, List.set_cons_succ]); (try rfl))
            clear hS hdep hR
            refine gh_quiet14 (v := .int .i64 (NL.length : Int)) ?_ ?_
            · (simp only [execOp, Act.eval, o8]; go_simp; first | done | (simp; done) | (simp [*]; done) | omega | (rw [IntKind.wrap_i64]; omega))
            · exact hK'
          | 6, ho, hun, hdep, hK, hfl, _ =>
            obtain rfl := Option.some.inj ho
            have d5 : lp.getD 5 false = true := hdep { on := 5, ground := .data } (by simp) rfl
            have e57 : a'.tmps[57]? = some (.int .i64 (NL.length : Int)) := (hS.don 5 _ 57 rfl d5 rfl).trans (by simp only [putAll, Act.put, List.setIfInBounds_toArray, List.set_cons_zero, List.set_cons_succ]; rfl)
            have q := bl1 w' (.cells #[.int .i64 (NL.length : Int)] 3)
            have hbs : base ≤ w'.heap.size := Nat.le_trans HL.out.2.2 (Nat.le_of_lt (lt_16 hR.r.1))
            have hK' := hK (w'.heap.size, g.2) (w'.alloc (.cells #[.int .i64 (NL.length : Int)] 3)) (fun k' ok s hk hl hd => gh_same14 (d := 58) (s := s) (by simp only [putAll, Act.put, List.setIfInBounds_toArray, List.set_cons_zero, List.set_cons_succ]; rfl) (by rintro rfl; have := dstG_of (by kernel_rfl) k' 6 ok _ 58 hk rfl hd rfl; subst this; rw [hun] at hl; cases hl)) (by rw [hfl 7 (by decide), hfl 9 (by decide), hfl 11 (by decide), getD_set_same (by rw [hsz]; decide)]; exact hR.build hun ⟨(q.block _ (lt_16 hR.r.1)).trans hR.r.1, (q.block _ (lt_16 hR.r.2.1)).trans hR.r.2.1, (q.block _ (lt_16 hR.r.2.2)).trans hR.r.2.2⟩ (fun h => h.below q) (fun h => h.below hbs q) (fun j u hj => by have h8 := news13 (W := w'.alloc (.cells #[.int .i64 (NL.length : Int)] 3)) (N := w'.heap.size) (v := .int .i64 (NL.length : Int)) (by simp [go_sem]) j u hj; exact h8)) (.slice (some ⟨w'.heap.size, 0, none⟩) 1 1) (by simp only [valO, Option.bind_some]; simp only [putAll, Act.put, List.setIfInBounds_toArray, List.set_cons_zero, List.set_cons_succ]; rfl)
            clear hS hdep hR hK q
            unfold Oper.wp
            simp only [execOp, Act.eval, Array.getD_eq_getD_getElem?]
            simp [go_sem, e57, Oper.upon]
            exact hK'
          | 7, ho, hun, hdep, hK, hfl, _ =>
            obtain rfl := Option.some.inj ho
            have d3 : lp.getD 3 false = true := hdep { on := 3, ground := .data } (by simp) rfl
            have e54 : a'.tmps[54]? = some (.map (some M)) := (hS.don 3 _ 54 rfl d3 rfl).trans (by simp only [putAll, Act.put, List.setIfInBounds_toArray, List.set_cons_zero, List.set_cons_succ]; rfl)
            have d4 : lp.getD 4 false = true := hdep { on := 4, ground := .data } (by simp) rfl
            have e55 : a'.tmps[55]? = some (.agg #[.int .i64 b, .int .i64 (R.length : Int), .int .u64 (smI R)]) := (hS.don 4 _ 55 rfl d4 rfl).trans (by simp only [putAll, Act.put, List.setIfInBounds_toArray, List.set_cons_zero, List.set_cons_succ]; rfl)
            have a1 := hR.a hun
            obtain ⟨hrun, hown⟩ := HKr.out w' a1
            have pm : ∀ {z : Nat} {cs : Array Value} {T : TypeId}, w'.heap[z]? = some (.cells cs T) → (w'.putObj M (.map es1 ck1)).heap[z]? = some (.cells cs T) := fun hz => (World.putObj_heap_other (fun q => by rw [q, a1.j.k.m] at hz; cases hz)).trans hz
            have hK' := hK g (w'.putObj M (.map es1 ck1)) (fun _ _ _ _ _ _ => rfl) (by rw [hfl 6 (by decide), hfl 9 (by decide), hfl 11 (by decide), getD_set_same (by rw [hsz]; decide)]; exact hR.ent hun ⟨pm hR.r.1, pm hR.r.2.1, pm hR.r.2.2⟩ (a1.ent12 hown) (fun z h j u hj => by
              have h8 := h j u hj
              refine (World.cell?_of_block (World.putObj_heap_other (fun q => ?_))).trans h8
              rw [addA] at h8
              have h7 : z = M := by rw [addA] at q; exact q
              rw [h7] at h8
              simp [World.cell?, a1.j.k.m] at h8)) (.tuple #[.slice eo bk.length ec, .int .i64 est]) (by simp only [valO, Option.bind_some]; simp only [putAll, Act.put, List.setIfInBounds_toArray, List.set_cons_zero, List.set_cons_succ]; rfl)
            clear hS hdep hR hK a1 hown
            refine gh_entry12 (v := .tuple #[.slice eo bk.length ec, .int .i64 est]) ?_ hK'
            simp only [execOp, Act.eval, Array.getD_eq_getD_getElem?, e54, e55, Option.getD_some]
            simp [hrun, Result.andThen]
          | 8, ho, hun, hdep, hK, hfl, _ =>
            obtain rfl := Option.some.inj ho
            have d7 : lp.getD 7 false = true := hdep { on := 7, ground := .data } (by simp) rfl
            have e59 : a'.tmps[59]? = some (.tuple #[.slice eo bk.length ec, .int .i64 est]) := (hS.don 7 _ 59 rfl d7 rfl).trans (by simp only [putAll, Act.put, List.setIfInBounds_toArray, List.set_cons_zero, List.set_cons_succ]; rfl)
            have hK' := hK g w' (fun _ _ _ _ _ _ => rfl) (by rw [hfl 6 (by decide), hfl 7 (by decide), hfl 9 (by decide), hfl 11 (by decide)]; exact hR) (.slice eo bk.length ec) (by simp only [valO, Option.bind_some]; (try simp only [putAll, Act.put, List.setIfInBounds_toArray, List.set_cons_zero, List.set_cons_succ]); (try rfl))
            clear hS hdep hR
            refine gh_quiet14 (v := .slice eo bk.length ec) ?_ ?_
            · (simp only [execOp, Act.eval, e59]; go_simp; first | done | (simp; done) | (simp [*]; done) | omega | (rw [IntKind.wrap_i64]; omega))
            · exact hK'
          | 9, ho, hun, hdep, hK, hfl, _ =>
            obtain rfl := Option.some.inj ho
            have d8 : lp.getD 8 false = true := hdep { on := 8, ground := .data } (by simp) rfl
            have e56 : a'.tmps[56]? = some (.slice eo bk.length ec) := (hS.don 8 _ 56 rfl d8 rfl).trans (by simp only [putAll, Act.put, List.setIfInBounds_toArray, List.set_cons_zero, List.set_cons_succ]; rfl)
            have d6 : lp.getD 6 false = true := hdep { on := 6, ground := .data } (by simp) rfl
            have e58 : a'.tmps[58]? = some (.slice (some ⟨g.1, 0, none⟩) 1 1) := (hS.don 6 _ 58 rfl d6 rfl).trans (by simp only [putAll, Act.put, List.setIfInBounds_toArray, List.set_cons_zero, List.set_cons_succ]; rfl)
            have d7 : lp.getD 7 false = true := hdep { on := 7, ground := .chain } (by simp) rfl
            have a1 := hR.a1 d7 hun
            have hN := hR.d d6 hun
            have hbs : base ≤ w'.heap.size := Nat.le_trans HL.out.2.2 (Nat.le_of_lt (lt_16 hR.r.1))
            obtain ⟨X0, b1, b2, b3, b4, b5⟩ := a1.x
            refine wp_append_lies w' (.tmp 56) (.tmp 58) 61 rfl base 3 k0 (.int .i64 0) 1 8 Try.underlying61 ki kz0 kz1 kz2 rfl (by decide) (.slice eo bk.length ec) bk.length (bk.map cI) (by simp [Act.eval, e56]) b5 ⟨g.1, 0, none⟩ 1 1 [.int .i64 (NL.length : Int)] (by simp [Act.eval, e58]) rfl hN (by intro u hu; simp at hu; subst hu; rfl) (by decide) (by unfold maxLen; have := HBl.out; omega) (by have := HBl.out; omega) hbs _ rfl ?_
            intro g2 c2 W5 ho hg hat _
            have ty : ∀ {z : Nat} {cs : Array Value} {T : TypeId}, w'.heap[z]? = some (.cells cs T) → 3 ≠ T → W5.heap[z]? = some (.cells cs T) := fun hz hT => (hg.block _ (lt_16 hz) (fun q => own_not18 b5 hz hT q.symm)).trans hz
            exact hK (g.1, (g2, c2)) W5 (fun k' ok s hk hl hd => gh_same14 (d := 60) (s := s) (by simp only [putAll, Act.put, List.setIfInBounds_toArray, List.set_cons_zero, List.set_cons_succ]; rfl) (by rintro rfl; have := dstG_of (by kernel_rfl) k' 9 ok _ 60 hk rfl hd rfl; subst this; rw [hun] at hl; cases hl)) (by rw [hfl 6 (by decide), hfl 7 (by decide), hfl 11 (by decide), getD_set_same (by rw [hsz]; decide)]; exact hR.app hun d7 d6 ⟨ty hR.r.1 (by decide), ty hR.r.2.1 (by decide), ty hR.r.2.2 (by decide)⟩ (a1.app12 hbs hg ho hat)) _ (by simp only [valO, Option.bind_some]; simp only [putAll, Act.put, List.setIfInBounds_toArray, List.set_cons_zero, List.set_cons_succ]; rfl)
          | 10, ho, hun, hdep, hK, hfl, _ =>
            obtain rfl := Option.some.inj ho
            have d7 : lp.getD 7 false = true := hdep { on := 7, ground := .data } (by simp) rfl
            have e59 : a'.tmps[59]? = some (.tuple #[.slice eo bk.length ec, .int .i64 est]) := (hS.don 7 _ 59 rfl d7 rfl).trans (by simp only [putAll, Act.put, List.setIfInBounds_toArray, List.set_cons_zero, List.set_cons_succ]; rfl)
            have hK' := hK g w' (fun _ _ _ _ _ _ => rfl) (by rw [hfl 6 (by decide), hfl 7 (by decide), hfl 9 (by decide), hfl 11 (by decide)]; exact hR) (.int .i64 est) (by simp only [valO, Option.bind_some]; (try simp only [putAll, Act.put, List.setIfInBounds_toArray, List.set_cons_zero, List.set_cons_succ]); (try rfl))
            clear hS hdep hR
            refine gh_quiet14 (v := .int .i64 est) ?_ ?_
            · (simp only [execOp, Act.eval, e59]; go_simp; first | done | (simp; done) | (simp [*]; done) | omega | (rw [IntKind.wrap_i64]; omega))
            · exact hK'
          | 11, ho, hun, hdep, hK, hfl, _ =>
            obtain rfl := Option.some.inj ho
            have d3 : lp.getD 3 false = true := hdep { on := 3, ground := .data } (by simp) rfl
            have e54 : a'.tmps[54]? = some (.map (some M)) := (hS.don 3 _ 54 rfl d3 rfl).trans (by simp only [putAll, Act.put, List.setIfInBounds_toArray, List.set_cons_zero, List.set_cons_succ]; rfl)
            have d10 : lp.getD 10 false = true := hdep { on := 10, ground := .data } (by simp) rfl
            have e61 : a'.tmps[61]? = some (.int .i64 est) := (hS.don 10 _ 61 rfl d10 rfl).trans (by simp only [putAll, Act.put, List.setIfInBounds_toArray, List.set_cons_zero, List.set_cons_succ]; rfl)
            have d9 : lp.getD 9 false = true := hdep { on := 9, ground := .data } (by simp) rfl
            have e60 : a'.tmps[60]? = some (.slice (some ⟨g.2.1, 0, none⟩) (bk.length + 1) g.2.2) := (hS.don 9 _ 60 rfl d9 rfl).trans (by simp only [putAll, Act.put, List.setIfInBounds_toArray, List.set_cons_zero, List.set_cons_succ]; rfl)
            obtain ⟨es2, hrun, hj2, hf2⟩ := (hR.c d9 hun).sto12 HE.out HBk.out
            have pm : ∀ {z : Nat} {cs : Array Value} {T : TypeId}, w'.heap[z]? = some (.cells cs T) → (w'.putObj M (.map es2 ck1)).heap[z]? = some (.cells cs T) := fun hz => (World.putObj_heap_other (fun q => by
              obtain ⟨X0, -, -, h9, -⟩ := (hR.c d9 hun).x
              rw [q, h9] at hz; cases hz)).trans hz
            have hK' := hK g (w'.putObj M (.map es2 ck1)) (fun _ _ _ _ _ _ => rfl) (by rw [hfl 6 (by decide), hfl 7 (by decide), hfl 9 (by decide), getD_set_same (by rw [hsz]; decide)]; exact hR.sto d9 ⟨pm hR.r.1, pm hR.r.2.1, pm hR.r.2.2⟩ ⟨es2, ck1, hj2, hf2⟩) undef rfl
            clear hS hdep hR hK hj2 hf2
            refine gh_store12 ?_ hK'
            simp only [execOp, Act.eval, Array.getD_eq_getD_getElem?, e54, e61, e60, Option.getD_some]
            simp [hrun, Result.andThen]
          | n + 12, ho, hun, hdep, hK, hfl, hq => exact absurd hq (by omega)
        case fin2 =>
          intro g V9 hR
          obtain ⟨es2, ck2, e1, e2⟩ := hR.e (by simp)
          simp only [putAll, Act.put, List.setIfInBounds_toArray, List.set_cons_zero, List.set_cons_succ]
          have HF2 := hid13 (And.intro e1 e2)
          clear hR e1 e2 HR2
          go_wp2
          exact bodyPost_ret (v := .int .i64 (NL.length : Int)) (by simp [results, Try.results48, go_sem]) rfl ⟨_, _, _, _, by rw [HF.out.1], by rw [HF.out.2]; exact HF2.out.1, HF2.out.2⟩
end Go.Proofs.Ytdpfdlkaickkiaa
