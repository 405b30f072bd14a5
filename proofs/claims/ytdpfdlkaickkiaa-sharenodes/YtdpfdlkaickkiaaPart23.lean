/-
  Part 23 of the proof: 1 texts, one behind the other.
-/
import Derived.Test.YtdpfdlkaickkiaaPart22
import Derived.Test.YtdpfdlkaickkiaaPart21
namespace Go.Proofs.Ytdpfdlkaickkiaa
open Go.RowKit Go.Shelf
set_option linter.unusedSimpArgs false
set_option linter.unusedVariables false
attribute [local go_sem] Oper.semAt_some

def fdK (C : List Int) (ND : List Nde) (n : Nde) (i : Nat) : Nat → Int
  | 0 => (i : Int)
  | k + 1 => if i < k then (if (C.getD k 0 == (k : Int)) && sqD (ND.getD k ⟨0, []⟩) n then (k : Int) else fdK C ND n i k) else (i : Int)
def stC (L : List Nde) (S : List Int × List Nde) (i : Nat) : List Int × List Nde := ((S.1.set i (i : Int)).set i (fdK (S.1.set i (i : Int)) (S.2.set i (nmD S.1 (L.getD i ⟨0, []⟩))) (nmD S.1 (L.getD i ⟨0, []⟩)) i L.length), S.2.set i (nmD S.1 (L.getD i ⟨0, []⟩)))
def clsD (L : List Nde) : Nat → List Int × List Nde → List Int × List Nde
  | 0, S => S
  | i + 1, S => clsD L i (stC L S i)
def clsL (L : List Nde) : List Int × List Nde := clsD L L.length (List.replicate L.length 0, List.replicate L.length ⟨0, []⟩)
theorem NbS.below {X0 W W' : World} {bt : Int} {vr : Value} {RS : List Rn} {RB : Nat} {r : Rn} (h : NbS X0 bt vr RS RB r W) (hb : Below W.heap.size W W') : NbS X0 bt vr RS RB r W' := ⟨h.t.below hb, (hb.block _ (lt_16 h.r)).trans h.r, h.l, h.n⟩
structure CsV (w : World) (V : List Value) (C : List Int) (ND : List Nde) (N : Nat) (W : World) : Prop where
  c : W.heap[w.heap.size]? = some (.cells (C.map cI).toArray 3)
  n : NdO W w.heap.size (.slice (some ⟨w.heap.size + 1, 0, none⟩) N N) V ND
  b : Below w.heap.size w W
  cl : C.length = N
  nl : ND.length = N
theorem mx12 (m : Nat) (h : m ≤ 1000000000) : IntKind.i64.wrap (m : Int) = (m : Int) := by rw [IntKind.wrap_i64]; omega
theorem own_small12 {W : World} {base e size n : Nat} {v : Value} {xs : List Value} (h : W.ownsRow base e size v n xs) : n ≤ 9223372036854775807 := by
  rcases h.2 with ⟨-, h2⟩ | ⟨g, cap, cur, e0, hb, hg, hc, hm, -⟩
  · omega
  · unfold maxLen at hm; omega
section
variable {w : World} {V : List Value} {C : List Int} {ND : List Nde} {N : Nat} {W W' : World}
theorem CsV.below (h : CsV w V C ND N W) (hb : Below W.heap.size W W') : CsV w V C ND N W' := ⟨(hb.block _ (lt_16 h.c)).trans h.c, h.n.below hb, keepb hb h.b, h.cl, h.nl⟩
theorem CsV.putC (h : CsV w V C ND N W) (k : Nat) (m : Int) : CsV w V (C.set k m) ND N (W.setCell ⟨w.heap.size, k, none⟩ (.int .i64 m)) :=
  ⟨by rw [set_16 h.c, List.setIfInBounds_toArray, List.map_set]; rfl, h.n.far12 h.c (by decide) (by decide), h.b.setCell (p := ⟨w.heap.size, k, none⟩) (Nat.le_refl _) _, by rw [List.length_set]; exact h.cl, h.nl⟩
theorem CsV.cell (h : CsV w V C ND N W) {k : Nat} (hk : k < N) : W.cell? ⟨w.heap.size, k, none⟩ = some (.int .i64 (C.getD k 0)) :=
  at_16 h.c k _ (by rw [List.getElem?_toArray, List.getElem?_map, List.getElem?_eq_getElem (by rw [h.cl]; exact hk), List.getD_eq_getElem?_getD, List.getElem?_eq_getElem (by rw [h.cl]; exact hk)]; rfl)
theorem CsV.putN (h : CsV w V C ND N W) {k : Nat} (hk : k < N) {d : Nde} {u : Value} (hr : W.ownsRow w.heap.size 54 4 u d.r.length (rowN d.r)) (hf : ∀ (j : Nat) (x : Value), V[j]? = some x → j ≠ k → ∀ z, x.ownBlock = some z → u.ownBlock ≠ some z) : CsV w (V.set k u) C (ND.set k d) N ((W.setCell ⟨w.heap.size + 1, k * 2, none⟩ (.int .i64 d.b)).setCell ⟨w.heap.size + 1, k * 2 + 1, none⟩ u) :=
  ⟨(far_16 (by omega)).trans ((far_16 (by omega)).trans h.c), h.n.set12 h.nl hk hr hf, (h.b.setCell (p := ⟨w.heap.size + 1, k * 2, none⟩) (by show w.heap.size ≤ w.heap.size + 1; omega) _).setCell (p := ⟨w.heap.size + 1, k * 2 + 1, none⟩) (by show w.heap.size ≤ w.heap.size + 1; omega) _, h.cl, by rw [List.length_set]; exact h.nl⟩
end
set_option maxRecDepth 100000 in
set_option maxHeartbeats 16000000 in
theorem rclasses12 (v : Value) (L : List Nde) (w : World) (hv : RwD w v L) (h0 : 0 < L.length) (hl : L.length ≤ 1000000) (hr : ∀ d ∈ L, d.r.length ≤ 1000000) (hkk : ∀ d ∈ L, ∀ r ∈ d.r, r.k = true → 0 ≤ r.n ∧ r.n < (L.length : Int)) :
    Calls Try.prog 26 #[v] w fun e w' => ∃ V, e = .returned (.tuple #[.slice (some ⟨w.heap.size, 0, none⟩) L.length L.length, .slice (some ⟨w.heap.size + 1, 0, none⟩) L.length L.length]) ∧ CsV w V (clsL L).1 (clsL L).2 L.length w' := by
  obtain ⟨i0, hi, hz0, hz1, hz2⟩ := info13 Try.infoRn16
  obtain ⟨j0, ji, jz0, jz1, jz2⟩ := info13 Try.infoD16
  obtain ⟨k0, ki, kz0, kz1, kz2⟩ := info13 Try.infoN16
  obtain ⟨ao, c, hvf, -, hrow⟩ := id hv
  obtain ⟨b, off, hao, hcell⟩ := hrow.resolve_left (by rintro rfl; exact absurd h0 (by simp))
  subst hao
  subst hvf
  have HC := hid13 hcell
  have HL : Hid (L.length ≤ 1000000 ∧ (∀ d ∈ L, d.r.length ≤ 1000000) ∧ 0 < L.length) := ⟨hl, hr, h0⟩
  have HKd := hid13 hkk
  obtain ⟨R, hR⟩ : ∃ R, R = clsL L := ⟨_, rfl⟩
  rw [← hR]
  have HR : Hid (clsD L L.length (List.replicate L.length 0, List.replicate L.length ⟨0, []⟩) = R) := hR.symm
  have hw1 : IntKind.i64.wrap ((L.length : Int) - 1) = (L.length : Int) - 1 := by rw [IntKind.wrap_i64]; omega
  clear hv hcell hrow hr hkk h0 hR
  go_enter Try.func26, Try.ntmps26
  go_wp2_with (at_make; apply stopHere9)
  refine (show wpList _ _ _ _ _ _ from ?_)
  refine wpList_make16 _ rfl _ _ 61 rfl 3 k0 (.int .i64 0) Try.underlying61 ki kz0 .i64 .i64 _ _ L.length L.length rfl rfl rfl rfl (Nat.le_refl _) (by rw [kz2]; omega) (by unfold maxLen; omega) ?_
  have eO : madeCells (Value.int IntKind.i64 0).cells (L.length * k0.size) = ((List.replicate L.length (0 : Int)).map cI).toArray := by rw [kz1, Nat.mul_one, List.map_replicate]; exact made_one16 _ _
  rw [eO]
  clear eO
  have q1 := bl1 w (.cells ((List.replicate L.length (0 : Int)).map cI).toArray 3)
  have n1 := new_16 w (.cells ((List.replicate L.length (0 : Int)).map cI).toArray 3)
  have s1 : (w.alloc (.cells ((List.replicate L.length (0 : Int)).map cI).toArray 3)).heap.size = w.heap.size + 1 := World.size_alloc ..
  generalize w.alloc (.cells ((List.replicate L.length (0 : Int)).map cI).toArray 3) = W1 at *
  go_wp2_with (at_make; apply stopHere9)
  refine (show wpList _ _ _ _ _ _ from ?_)
  refine wpList_make16 _ rfl _ _ 22 rfl 57 j0 (.agg #[.int .i64 0, .slice none 0 0]) Try.underlying22 ji jz0 .i64 .i64 _ _ L.length L.length rfl rfl rfl rfl (Nat.le_refl _) (by rw [jz2]; omega) (by unfold maxLen; omega) ?_
  rw [s1]
  have HS0 : Hid (∀ U, U = W1.alloc (.cells (madeCells #[.int .i64 0, .slice none 0 0] (L.length * j0.size)) 57) → CsV w (List.replicate L.length (.slice none 0 0)) (List.replicate L.length 0) (List.replicate L.length ⟨0, []⟩) L.length U) := hid13 (by
    rintro U rfl
    have n3 := new_16 W1 (.cells (madeCells #[.int .i64 0, .slice none 0 0] (L.length * j0.size)) 57)
    rw [s1] at n3
    refine ⟨old_16 _ n1, ⟨?_, by simp, fun j d u h1 h2 => ?_, fun i j x y z h1 h2 h3 h4 => ?_⟩, keepb (bl1 _ _) q1, by simp, by simp⟩
    · rw [← madeNd12 L.length, List.length_replicate]
      refine ⟨by simp [madeCells], .inr ⟨w.heap.size + 1, L.length, _, rfl, by omega, n3, Nat.le_refl _, by unfold maxLen; omega, by rw [size_madeCells, jz1], ?_⟩⟩
      rw [jz1]
      rw [List.take_of_length_le (by rw [Array.length_toList, size_madeCells]; exact Nat.le_refl _)]
    · have e1 := List.eq_of_mem_replicate (List.mem_of_getElem? h1)
      have e2 := List.eq_of_mem_replicate (List.mem_of_getElem? h2)
      subst e1 e2
      exact World.ownsRow_nil _ _ _ _
    · have e1 := List.eq_of_mem_replicate (List.mem_of_getElem? h1)
      subst e1
      cases h3)
  clear q1 n1 s1 ji jz0 jz1 jz2
  go_wp2_with fail
  revert HS0
  generalize W1.alloc (.cells (madeCells #[.int .i64 0, .slice none 0 0] (L.length * j0.size)) 57) = W2
  intro HS0
  have HS2 := hid13 (HS0.out W2 rfl)
  clear HS0
  go_loopg [6] L.length (fun g iv wr => ∃ (x : Int) (V : List Value) (C : List Int) (ND : List Nde), x + 1 = (g : Int) ∧ iv = .int .i64 x ∧ g ≤ L.length ∧ Hid (CsV w V C ND L.length wr ∧ clsD L g (C, ND) = R))
  case atStart => exact ⟨(L.length : Int) - 1, _, _, _, by omega, rfl, Nat.le_refl _, hid13 ⟨HS2.out, HR.out⟩⟩
  case round =>
    clear HS2 HR
    obtain ⟨x, V, C, ND, hx, rfl, hgl, HS⟩ := hrel
    by_cases hge : 0 ≤ x
    · obtain ⟨i, rfl⟩ : ∃ i : Nat, x = (i : Int) := ⟨x.toNat, by omega⟩
      have hgi : gk = i + 1 := by omega
      subst hgi
      have hiL : i < L.length := by omega
      have mi : IntKind.i64.wrap ((i : Int) - 1) = (i : Int) - 1 := by rw [IntKind.wrap_i64]; omega
      have hiL2 : (i : Int) < (L.length : Int) := by omega
      obtain ⟨⟨db, dr⟩, hd⟩ : ∃ d, L[i]? = some d := ⟨L[i], by simp [hiL]⟩
      have hgd : L.getD i ⟨0, []⟩ = ⟨db, dr⟩ := by rw [List.getD_eq_getElem?_getD, hd]; rfl
      have hmd := List.mem_of_getElem? hd
      have hdr := HL.out.2.1 _ hmd
      have hkd := HKd.out _ hmd
      dsimp only at hdr hkd
      obtain ⟨vr0, x0, x1, hR0⟩ := HC.out i _ hd
      dsimp only at x0 hR0
      obtain ⟨ra, rc, hvr0, -, hrr⟩ := id hR0
      subst hvr0
      have HRr0 := hid13 hrr
      have HCl : Hid (∀ X, Below w.heap.size w X → X.cell? ⟨b, off + i * 2, none⟩ = some (.int .i64 db) ∧ X.cell? ⟨b, off + i * 2 + 1, none⟩ = some (.slice ra dr.length rc)) := hid13 (fun X h => ⟨keepc h x0, keepc h x1⟩)
      have HKd2 := hid13 hkd
      have HDl : Hid (dr.length ≤ 1000000) := hdr
      obtain ⟨NM, hNM⟩ : ∃ NM, NM = nbG (fun _ r => C.getD r.n.toNat 0) [] [] dr := ⟨_, rfl⟩
      have HNM : Hid (nbG (fun _ r => C.getD r.n.toNat 0) [] [] dr = NM) := hNM.symm
      obtain ⟨FI, hFI⟩ : ∃ FI, FI = fdK (C.set i (i : Int)) (ND.set i ⟨db, NM⟩) ⟨db, NM⟩ i L.length := ⟨_, rfl⟩
      have HFI : Hid (fdK (C.set i (i : Int)) (ND.set i ⟨db, NM⟩) ⟨db, NM⟩ i L.length = FI) := hFI.symm
      have HT : Hid (clsD L i ((C.set i (i : Int)).set i FI, ND.set i ⟨db, NM⟩) = R) := hid13 (by
        have h9 := HS.out.2
        have h8 : nmD C ⟨db, dr⟩ = ⟨db, NM⟩ := by rw [hNM]; rfl
        have h7 : clsD L (i + 1) (C, ND) = clsD L i (stC L (C, ND) i) := rfl
        rw [h7] at h9
        unfold stC at h9
        dsimp only at h9
        rw [hgd, h8, HFI.out] at h9
        exact h9)
      have HI : Hid (i < L.length ∧ NM.length ≤ dr.length) := hid13 ⟨hiL, by rw [hNM]; have := nbG_len (fun _ r => C.getD r.n.toNat 0) dr [] []; simpa using this⟩
      obtain ⟨X0, hX0⟩ : ∃ X0, X0 = wr := ⟨_, rfl⟩
      have HIo := hid13 HS.out.1
      rw [← hX0] at HIo ⊢
      have q1 := bl1 X0 (.cells #[.int .i64 db, .slice none 0 0] 57)
      have HT0 : Hid (TnV X0 db (.slice none 0 0) [] (X0.alloc (.cells #[.int .i64 db, .slice none 0 0] 57))) := hid13 ⟨q1, new_16 _ _, World.ownsRow_nil _ _ _ _⟩
      have HBX : Hid (Below w.heap.size w X0) := hid13 HIo.out.b
      obtain ⟨c1, c2⟩ := HCl.out _ HBX.out
      clear hx hgl HS hge hiL hd hgd hmd hdr hkd x0 x1 hR0 hrr hX0 q1 hNM hFI
      go_wp2_with fail
      clear c1 c2
      go_loopg [8] dr.length (fun gk iv wr => ∃ (k : Nat) (vr : Value) (RS : List Rn), k + gk = dr.length ∧ iv = .int .i64 (k : Int) ∧ Hid (TnV X0 db vr RS wr ∧ nbG (fun _ r => C.getD r.n.toNat 0) (dr.take k) RS (dr.drop k) = NM ∧ RS.length ≤ k))
      case atStart => exact ⟨0, _, [], by omega, rfl, hid13 ⟨HT0.out, HNM.out, Nat.le_refl _⟩⟩
      case round =>
        clear HT0
        obtain ⟨k, vr, RS, hk2, rfl, HN⟩ := hrel
        have HBw : Hid (Below w.heap.size w wr) := hid13 (keepb HN.out.1.b HBX.out)
        obtain ⟨c1, c2⟩ := HCl.out _ HBw.out
        have mk : IntKind.i64.wrap ((k : Int) + 1) = ((k + 1 : Nat) : Int) := by rw [IntKind.wrap_i64]; have := HDl.out; push_cast; omega
        by_cases hlt2 : (k : Int) < (dr.length : Int)
        · have hkl : k < dr.length := by omega
          obtain ⟨⟨rf, rk, rn⟩, hr⟩ : ∃ r, dr[k]? = some r := ⟨dr[k], by simp [hkl]⟩
          obtain ⟨rb, rof, hra, hrc⟩ := HRr0.out.resolve_left (by rintro rfl; simp at hkl)
          subst hra
          obtain ⟨e0, e1, e2, e3⟩ := (hrc k _ hr).below HBw.out
          dsimp only at e0 e1 e2 e3
          have HD := hid13 (nbG_drop (fun _ r => C.getD r.n.toNat 0) dr RS k _ hr)
          have hkn := HKd2.out _ (List.mem_of_getElem? hr)
          dsimp only at hkn
          have HF := hid13 HN.out.2.1
          obtain ⟨vo, vc, hvr⟩ := own_form HN.out.1.o
          subst hvr
          have HJ2 : Hid (k < dr.length ∧ k + gk = dr.length ∧ dr.length ≤ 1000000 ∧ RS.length ≤ k) := ⟨hkl, hk2, HDl.out, HN.out.2.2⟩
          have hne : ¬ X0.heap.size = wr.heap.size := by have := lt_16 HN.out.1.n; omega
          have hne2 : ¬ wr.heap.size = X0.heap.size := by omega
          have HTn := hid13 HN.out.1
          clear hr hrc hk2 hkl HN
          cases rk with
          | false =>
            have HF0 : Hid (rnK (fun _ r => C.getD r.n.toNat 0) (dr.take k) ⟨rf, false, rn⟩ = ⟨rf, false, rn⟩) := rfl
            have HSx := hid13 (NbS.new HTn.out ⟨rf, false, rn⟩)
            clear hkn
            have c6 := at_16 HTn.out.n 1 _ rfl
            have x2 := at_16 HSx.out.r 1 _ rfl
            have g0 := at_16 HSx.out.r 0 _ rfl
            have g1 := at_16 HSx.out.r 1 _ rfl
            have g2 := at_16 HSx.out.r 2 _ rfl
            have g3 := at_16 HSx.out.r 3 _ rfl
            have g6 := at_16 HSx.out.t.n 1 _ rfl
            dsimp only at g0 g1 g2 g3
            clear x2
            obtain ⟨m, hm⟩ : ∃ m, m = RS.length := ⟨_, rfl⟩
            have HM : Hid (RS.length = m) := hm.symm
            have HM2 : Hid (m ≤ k) := hid13 (by rw [hm]; exact HJ2.out.2.2.2)
            rw [← hm] at HSx g6 c6
            rcases List.eq_nil_or_concat RS with hRS | ⟨RS0, q, hRS⟩
            · subst hRS
              have hm0 : m = 0 := hm
              subst hm0
              have HMg : Hid (mgR [] ⟨rf, false, rn⟩ = [] ++ [⟨rf, false, rn⟩]) := rfl
              clear hm
              go_wp2_with fail
              go_quiet (fail)
              have HY0 := hid13 (HSx.out.below (below_drewN (Below.refl _ _) nq))
              clear HSx e0 e1 e2 e3 c1 c2 c6 g0 g1 g2 g3 g6 
              obtain ⟨RB, hRB⟩ : ∃ RB, RB = wr.heap.size := ⟨_, rfl⟩
              rw [← hRB] at HY0 ⊢
              revert HY0
              generalize (wr.alloc (.cells #[.int .u64 (hI rf), .int .u64 (lI rf), .bool false, .int .i64 rn] 54)).drewN nq = Y
              intro HY
              clear hRB
              have Y0 := HY.out
              have f0 := at_16 Y0.r 0 _ rfl
              have f1 := at_16 Y0.r 1 _ rfl
              have f2 := at_16 Y0.r 2 _ rfl
              have f3 := at_16 Y0.r 3 _ rfl
              have d6 := at_16 Y0.t.n 1 _ rfl
              dsimp only at f0 f1 f2 f3
              clear Y0
              go_wp2_with (at_builtin; apply stopHere9)
              refine (show wpList _ _ _ _ _ _ from ?_)
              clear f0 f1 f2 f3 d6
              have b3 := bl1 Y (.cells #[.int .u64 (hI rf), .int .u64 (lI rf), .bool false, .int .i64 rn] 54)
              have hT9 := HY.out.t.below b3
              have ho := hT9.o
              rw [HM.out] at ho
              refine wpList_append_lies _ rfl _ _ 55 rfl (X0.heap.size + 1) 54 i0 (.agg #[.int .u64 0, .int .u64 0, .bool false, .int .i64 0]) 4 32 Try.underlying55 hi hz0 hz1 hz2 rfl (by decide) _ _ _ rfl ho ⟨Y.heap.size, 0, none⟩ 1 1 [.int .u64 (hI rf), .int .u64 (lI rf), .bool false, .int .i64 rn] rfl rfl (newsN18 Y (.int .u64 (hI rf)) (.int .u64 (lI rf)) (.bool false) (.int .i64 rn) 54) (by intro u hu; simp at hu; rcases hu with rfl | rfl | rfl | rfl <;> rfl) (by decide) (by have := HJ2.out; have := HM2.out; unfold maxLen; omega) (by have := HJ2.out; have := HM2.out; omega) (by have h1 := lt_16 hT9.n; omega) _ rfl ?_
              intro g9 cap9 w9 h1 h2 h3 h4
              have hrw : rowN ([]) ++ [Value.int .u64 (hI rf), Value.int .u64 (lI rf), Value.bool false, Value.int .i64 rn] = rowN ([] ++ [⟨rf, false, rn⟩]) := (rowN_app18 ([]) ⟨rf, false, rn⟩).symm
              rw [hrw] at h1
              obtain ⟨hp9, y0, yf⟩ := HY.out.t.push HM.out b3 h1 h2
              have HP9 := hid13 hp9
              clear hp9 h1 h2 h3 h4 hrw ho hT9 b3
              go_wp2
              go_roundg (gk - 1)
              case measure => have := HJ2.out; omega
              case rel => exact ⟨k + 1, _, [] ++ [⟨rf, false, rn⟩], by have := HJ2.out; omega, rfl, hid13 ⟨HP9.out, by rw [← HF.out, HD.out, HF0.out, HMg.out], by rw [List.length_append, HM.out]; have := HM2.out; have h9 : ([⟨rf, false, rn⟩] : List Rn).length = 1 := rfl; rw [h9]; omega⟩⟩
            · rw [List.concat_eq_append] at hRS
              subst hRS
              obtain ⟨m0, rfl⟩ : ∃ m0, m = m0 + 1 := ⟨RS0.length, by rw [hm]; simp⟩
              have hm0 : RS0.length = m0 := by simpa using hm.symm
              obtain ⟨qf, qk, qn⟩ := q
              have hov := HSx.out.t.o
              rw [HM.out] at hov
              obtain ⟨g, cap, hvg, -⟩ := own_some18 hov (Nat.succ_pos m0)
              injection hvg with hvg1 hvg2 hvg3
              subst hvg1
              have hmb : m0 ≤ 1000000000 := Nat.le_trans (Nat.le_succ m0) (Nat.le_trans HM2.out (Nat.le_trans (Nat.le_of_lt HJ2.out.1) (Nat.le_trans HJ2.out.2.2.1 (by decide))))
              have me := me12 m0 hmb
              have mw := mw12 m0 hmb
              have mlt : (m0 : Int) < ((m0 + 1 : Nat) : Int) := Int.ofNat_lt.mpr (Nat.lt_succ_self m0)
              have m02 := mx12 m0 hmb
              have m00 : ¬ (m0 : Int) < 0 := Int.not_lt.mpr (Int.natCast_nonneg m0)
              have m01 : (0 : Int) < ((m0 + 1 : Nat) : Int) := Int.natCast_pos.mpr (Nat.succ_pos m0)
              have HLa := hid13 (fun (X : World) (h : X.ownsRow (X0.heap.size + 1) 54 4 (.slice (some ⟨g, 0, none⟩) (m0 + 1) vc) (RS0 ++ [(⟨qf, qk, qn⟩ : Rn)]).length (rowN (RS0 ++ [(⟨qf, qk, qn⟩ : Rn)]))) => own_last12 (by rw [HM.out] at h; exact h) hm0)
              clear hm hov hvg2 hvg3 hm0 hmb
              cases qk with
              | true =>
                have HMg : Hid (mgR (RS0 ++ [⟨qf, true, qn⟩]) ⟨rf, false, rn⟩ = RS0 ++ [⟨qf, true, qn⟩] ++ [⟨rf, false, rn⟩]) := hid13 (by rw [mgR_app]; rfl)
                go_wp2_with fail
                refine qw_region (C := (fun X => NbS X0 db (.slice (some ⟨g, 0, none⟩) (m0 + 1) vc) (RS0 ++ [⟨qf, true, qn⟩]) wr.heap.size ⟨rf, false, rn⟩ X)) (by kernel_rfl) (by kernel_rfl) (HSx.out.below (Below.refl _ _).drew) ?_
                refine qw_run (v := .pointer (some ⟨X0.heap.size, 1, none⟩)) (by rfl) ?_ ?_
                · (intro w9 hC; clear hC; go_simp; first | done | (simp; done) | (simp [*]; done) | omega | (simp; omega) | (rw [IntKind.wrap_i64]; omega) | (intro hx; omega) | rfl)
                simp only [Act.put, List.setIfInBounds_toArray, List.set_cons_zero, List.set_cons_succ]
                refine qw_run (v := .slice (some ⟨g, 0, none⟩) (m0 + 1) vc) (by rfl) ?_ ?_
                · (intro w9 hC; have z1 := at_16 hC.t.n 1 _ rfl; clear hC; go_simp; first | done | (simp; done) | (simp [*]; done) | omega | (simp; omega) | (rw [IntKind.wrap_i64]; omega) | (intro hx; omega) | rfl)
                simp only [Act.put, List.setIfInBounds_toArray, List.set_cons_zero, List.set_cons_succ]
                refine qw_run (v := .int .i64 ((m0 + 1 : Nat) : Int)) (by rfl) ?_ ?_
                · (intro w9 hC; clear hC; go_simp; first | done | (simp; done) | (simp [*]; done) | omega | (simp; omega) | (rw [IntKind.wrap_i64]; omega) | (intro hx; omega) | rfl)
                simp only [Act.put, List.setIfInBounds_toArray, List.set_cons_zero, List.set_cons_succ]
                refine qw_run (v := .bool true) (by rfl) ?_ ?_
                · (intro w9 hC; clear hC; go_simp; first | done | (simp; done) | (simp [*]; done) | omega | (simp; omega) | (rw [IntKind.wrap_i64]; omega) | (intro hx; omega) | rfl)
                simp only [Act.put, List.setIfInBounds_toArray, List.set_cons_zero, List.set_cons_succ]
                refine qw_run (v := .bool true) (by rfl) ?_ ?_
                · (intro w9 hC; clear hC; go_simp; first | done | (simp; done) | (simp [*]; done) | omega | (simp; omega) | (rw [IntKind.wrap_i64]; omega) | (intro hx; omega) | rfl)
                simp only [Act.put, List.setIfInBounds_toArray, List.set_cons_zero, List.set_cons_succ]
                refine qw_run (v := .pointer (some ⟨X0.heap.size, 1, none⟩)) (by rfl) ?_ ?_
                · (intro w9 hC; clear hC; go_simp; first | done | (simp; done) | (simp [*]; done) | omega | (simp; omega) | (rw [IntKind.wrap_i64]; omega) | (intro hx; omega) | rfl)
                simp only [Act.put, List.setIfInBounds_toArray, List.set_cons_zero, List.set_cons_succ]
                refine qw_run (v := .slice (some ⟨g, 0, none⟩) (m0 + 1) vc) (by rfl) ?_ ?_
                · (intro w9 hC; have z1 := at_16 hC.t.n 1 _ rfl; clear hC; go_simp; first | done | (simp; done) | (simp [*]; done) | omega | (simp; omega) | (rw [IntKind.wrap_i64]; omega) | (intro hx; omega) | rfl)
                simp only [Act.put, List.setIfInBounds_toArray, List.set_cons_zero, List.set_cons_succ]
                refine qw_run (v := .pointer (some ⟨X0.heap.size, 1, none⟩)) (by rfl) ?_ ?_
                · (intro w9 hC; clear hC; go_simp; first | done | (simp; done) | (simp [*]; done) | omega | (simp; omega) | (rw [IntKind.wrap_i64]; omega) | (intro hx; omega) | rfl)
                simp only [Act.put, List.setIfInBounds_toArray, List.set_cons_zero, List.set_cons_succ]
                refine qw_run (v := .slice (some ⟨g, 0, none⟩) (m0 + 1) vc) (by rfl) ?_ ?_
                · (intro w9 hC; have z1 := at_16 hC.t.n 1 _ rfl; clear hC; go_simp; first | done | (simp; done) | (simp [*]; done) | omega | (simp; omega) | (rw [IntKind.wrap_i64]; omega) | (intro hx; omega) | rfl)
                simp only [Act.put, List.setIfInBounds_toArray, List.set_cons_zero, List.set_cons_succ]
                refine qw_run (v := .int .i64 ((m0 + 1 : Nat) : Int)) (by rfl) ?_ ?_
                · (intro w9 hC; clear hC; go_simp; first | done | (simp; done) | (simp [*]; done) | omega | (simp; omega) | (rw [IntKind.wrap_i64]; omega) | (intro hx; omega) | rfl)
                simp only [Act.put, List.setIfInBounds_toArray, List.set_cons_zero, List.set_cons_succ]
                refine qw_run (v := .int .i64 (m0 : Int)) (by rfl) ?_ ?_
                · (intro w9 hC; clear hC; go_simp; first | done | (simp; done) | (simp [*]; done) | omega | (simp; omega) | (rw [IntKind.wrap_i64]; omega) | (intro hx; omega) | rfl)
                simp only [Act.put, List.setIfInBounds_toArray, List.set_cons_zero, List.set_cons_succ]
                refine qw_run (v := .pointer (some ⟨g, m0 * 4, none⟩)) (by rfl) ?_ ?_
                · (intro w9 hC; clear hC; go_simp; first | done | (simp; done) | (simp [*]; done) | omega | (simp; omega) | (rw [IntKind.wrap_i64]; omega) | (intro hx; omega) | rfl)
                simp only [Act.put, List.setIfInBounds_toArray, List.set_cons_zero, List.set_cons_succ]
                refine qw_run (v := .pointer (some ⟨g, m0 * 4 + 2, none⟩)) (by rfl) ?_ ?_
                · (intro w9 hC; clear hC; go_simp; first | done | (simp; done) | (simp [*]; done) | omega | (simp; omega) | (rw [IntKind.wrap_i64]; omega) | (intro hx; omega) | rfl)
                simp only [Act.put, List.setIfInBounds_toArray, List.set_cons_zero, List.set_cons_succ]
                refine qw_run (v := .bool true) (by rfl) ?_ ?_
                · (intro w9 hC; obtain ⟨c0, c1, c2, c3⟩ := HLa.out _ hC.t.o; dsimp only at c2 c3; clear hC; go_simp; first | done | (simp; done) | (simp [*]; done) | omega | (simp; omega) | (rw [IntKind.wrap_i64]; omega) | (intro hx; omega) | rfl)
                simp only [Act.put, List.setIfInBounds_toArray, List.set_cons_zero, List.set_cons_succ]
                refine qw_run (v := .pointer (some ⟨wr.heap.size, 2, none⟩)) (by rfl) ?_ ?_
                · (intro w9 hC; clear hC; go_simp; first | done | (simp; done) | (simp [*]; done) | omega | (simp; omega) | (rw [IntKind.wrap_i64]; omega) | (intro hx; omega) | rfl)
                simp only [Act.put, List.setIfInBounds_toArray, List.set_cons_zero, List.set_cons_succ]
                refine qw_run (v := .bool false) (by rfl) ?_ ?_
                · (intro w9 hC; have c2 := at_16 hC.r 2 _ rfl; have c3 := at_16 hC.r 3 _ rfl; dsimp only at c2 c3; clear hC; go_simp; first | done | (simp; done) | (simp [*]; done) | omega | (simp; omega) | (rw [IntKind.wrap_i64]; omega) | (intro hx; omega) | rfl)
                simp only [Act.put, List.setIfInBounds_toArray, List.set_cons_zero, List.set_cons_succ]
                refine qw_run (v := .bool false) (by rfl) ?_ ?_
                · (intro w9 hC; clear hC; go_simp; first | done | (simp; done) | (simp [*]; done) | omega | (simp; omega) | (rw [IntKind.wrap_i64]; omega) | (intro hx; omega) | rfl)
                simp only [Act.put, List.setIfInBounds_toArray, List.set_cons_zero, List.set_cons_succ]
                refine qw_run (v := .bool false) (by rfl) ?_ ?_
                · (intro w9 hC; clear hC; go_simp; first | done | (simp; done) | (simp [*]; done) | omega | (simp; omega) | (rw [IntKind.wrap_i64]; omega) | (intro hx; omega) | rfl)
                simp only [Act.put, List.setIfInBounds_toArray, List.set_cons_zero, List.set_cons_succ]
                refine qw_run (v := .bool false) (by rfl) ?_ ?_
                · (intro w9 hC; clear hC; go_simp; first | done | (simp; done) | (simp [*]; done) | omega | (simp; omega) | (rw [IntKind.wrap_i64]; omega) | (intro hx; omega) | rfl)
                simp only [Act.put, List.setIfInBounds_toArray, List.set_cons_zero, List.set_cons_succ]
                refine qw_skip (by rfl) ?_
                simp only [Act.put, List.setIfInBounds_toArray, List.set_cons_zero, List.set_cons_succ]
                refine qw_skip (by rfl) ?_
                simp only [Act.put, List.setIfInBounds_toArray, List.set_cons_zero, List.set_cons_succ]
                refine qw_skip (by rfl) ?_
                simp only [Act.put, List.setIfInBounds_toArray, List.set_cons_zero, List.set_cons_succ]
                refine qw_skip (by rfl) ?_
                simp only [Act.put, List.setIfInBounds_toArray, List.set_cons_zero, List.set_cons_succ]
                refine qw_skip (by rfl) ?_
                simp only [Act.put, List.setIfInBounds_toArray, List.set_cons_zero, List.set_cons_succ]
                refine qw_skip (by rfl) ?_
                simp only [Act.put, List.setIfInBounds_toArray, List.set_cons_zero, List.set_cons_succ]
                refine qw_skip (by rfl) ?_
                simp only [Act.put, List.setIfInBounds_toArray, List.set_cons_zero, List.set_cons_succ]
                refine qw_skip (by rfl) ?_
                simp only [Act.put, List.setIfInBounds_toArray, List.set_cons_zero, List.set_cons_succ]
                refine qw_skip (by rfl) ?_
                simp only [Act.put, List.setIfInBounds_toArray, List.set_cons_zero, List.set_cons_succ]
                refine qw_skip (by rfl) ?_
                simp only [Act.put, List.setIfInBounds_toArray, List.set_cons_zero, List.set_cons_succ]
                refine qw_skip (by rfl) ?_
                simp only [Act.put, List.setIfInBounds_toArray, List.set_cons_zero, List.set_cons_succ]
                refine qw_skip (by rfl) ?_
                simp only [Act.put, List.setIfInBounds_toArray, List.set_cons_zero, List.set_cons_succ]
                refine qw_run (v := .bool false) (by rfl) ?_ ?_
                · (intro w9 hC; clear hC; go_simp; first | done | (simp; done) | (simp [*]; done) | omega | (simp; omega) | (rw [IntKind.wrap_i64]; omega) | (intro hx; omega) | rfl)
                simp only [Act.put, List.setIfInBounds_toArray, List.set_cons_zero, List.set_cons_succ]
                refine qw_nil ?_
                (try simp only [putAll, Act.put, List.setIfInBounds_toArray, List.set_cons_zero, List.set_cons_succ])
                intro Y hY
                have HY := hid13 hY
                clear hY me mw mlt m00 m01 m02 HLa HSx
                have Y0 := HY.out
                have f0 := at_16 Y0.r 0 _ rfl
                have f1 := at_16 Y0.r 1 _ rfl
                have f2 := at_16 Y0.r 2 _ rfl
                have f3 := at_16 Y0.r 3 _ rfl
                have d6 := at_16 Y0.t.n 1 _ rfl
                dsimp only at f0 f1 f2 f3
                clear Y0
                go_wp2_with (at_builtin; apply stopHere9)
                refine (show wpList _ _ _ _ _ _ from ?_)
                clear f0 f1 f2 f3 d6
                have b3 := bl1 Y (.cells #[.int .u64 (hI rf), .int .u64 (lI rf), .bool false, .int .i64 rn] 54)
                have hT9 := HY.out.t.below b3
                have ho := hT9.o
                rw [HM.out] at ho
                refine wpList_append_lies _ rfl _ _ 55 rfl (X0.heap.size + 1) 54 i0 (.agg #[.int .u64 0, .int .u64 0, .bool false, .int .i64 0]) 4 32 Try.underlying55 hi hz0 hz1 hz2 rfl (by decide) _ _ _ rfl ho ⟨Y.heap.size, 0, none⟩ 1 1 [.int .u64 (hI rf), .int .u64 (lI rf), .bool false, .int .i64 rn] rfl rfl (newsN18 Y (.int .u64 (hI rf)) (.int .u64 (lI rf)) (.bool false) (.int .i64 rn) 54) (by intro u hu; simp at hu; rcases hu with rfl | rfl | rfl | rfl <;> rfl) (by decide) (by have := HJ2.out; have := HM2.out; unfold maxLen; omega) (by have := HJ2.out; have := HM2.out; omega) (by have h1 := lt_16 hT9.n; omega) _ rfl ?_
                intro g9 cap9 w9 h1 h2 h3 h4
                have hrw : rowN ((RS0 ++ [⟨qf, true, qn⟩])) ++ [Value.int .u64 (hI rf), Value.int .u64 (lI rf), Value.bool false, Value.int .i64 rn] = rowN ((RS0 ++ [⟨qf, true, qn⟩]) ++ [⟨rf, false, rn⟩]) := (rowN_app18 ((RS0 ++ [⟨qf, true, qn⟩])) ⟨rf, false, rn⟩).symm
                rw [hrw] at h1
                obtain ⟨hp9, y0, yf⟩ := HY.out.t.push HM.out b3 h1 h2
                have HP9 := hid13 hp9
                clear hp9 h1 h2 h3 h4 hrw ho hT9 b3
                go_wp2
                go_roundg (gk - 1)
                case measure => have := HJ2.out; omega
                case rel => exact ⟨k + 1, _, (RS0 ++ [⟨qf, true, qn⟩]) ++ [⟨rf, false, rn⟩], by have := HJ2.out; omega, rfl, hid13 ⟨HP9.out, by rw [← HF.out, HD.out, HF0.out, HMg.out], by rw [List.length_append, HM.out]; have := HM2.out; have h9 : ([⟨rf, false, rn⟩] : List Rn).length = 1 := rfl; rw [h9]; omega⟩⟩
              | false =>
                by_cases hqn : qn = rn
                · subst hqn
                  have HMg : Hid (mgR (RS0 ++ [⟨qf, false, qn⟩]) ⟨rf, false, qn⟩ = RS0 ++ [⟨qf, false, qn⟩]) := hid13 (by rw [mgR_app]; unfold smR; simp)
                  go_wp2_with fail
                  refine qw_region (C := (fun X => NbS X0 db (.slice (some ⟨g, 0, none⟩) (m0 + 1) vc) (RS0 ++ [⟨qf, false, qn⟩]) wr.heap.size ⟨rf, false, qn⟩ X)) (by kernel_rfl) (by kernel_rfl) (HSx.out.below (Below.refl _ _).drew) ?_
                  refine qw_run (v := .pointer (some ⟨X0.heap.size, 1, none⟩)) (by rfl) ?_ ?_
                  · (intro w9 hC; clear hC; go_simp; first | done | (simp; done) | (simp [*]; done) | omega | (simp; omega) | (rw [IntKind.wrap_i64]; omega) | (intro hx; omega) | rfl)
                  simp only [Act.put, List.setIfInBounds_toArray, List.set_cons_zero, List.set_cons_succ]
                  refine qw_run (v := .slice (some ⟨g, 0, none⟩) (m0 + 1) vc) (by rfl) ?_ ?_
                  · (intro w9 hC; have z1 := at_16 hC.t.n 1 _ rfl; clear hC; go_simp; first | done | (simp; done) | (simp [*]; done) | omega | (simp; omega) | (rw [IntKind.wrap_i64]; omega) | (intro hx; omega) | rfl)
                  simp only [Act.put, List.setIfInBounds_toArray, List.set_cons_zero, List.set_cons_succ]
                  refine qw_run (v := .int .i64 ((m0 + 1 : Nat) : Int)) (by rfl) ?_ ?_
                  · (intro w9 hC; clear hC; go_simp; first | done | (simp; done) | (simp [*]; done) | omega | (simp; omega) | (rw [IntKind.wrap_i64]; omega) | (intro hx; omega) | rfl)
                  simp only [Act.put, List.setIfInBounds_toArray, List.set_cons_zero, List.set_cons_succ]
                  refine qw_run (v := .bool true) (by rfl) ?_ ?_
                  · (intro w9 hC; clear hC; go_simp; first | done | (simp; done) | (simp [*]; done) | omega | (simp; omega) | (rw [IntKind.wrap_i64]; omega) | (intro hx; omega) | rfl)
                  simp only [Act.put, List.setIfInBounds_toArray, List.set_cons_zero, List.set_cons_succ]
                  refine qw_run (v := .bool true) (by rfl) ?_ ?_
                  · (intro w9 hC; clear hC; go_simp; first | done | (simp; done) | (simp [*]; done) | omega | (simp; omega) | (rw [IntKind.wrap_i64]; omega) | (intro hx; omega) | rfl)
                  simp only [Act.put, List.setIfInBounds_toArray, List.set_cons_zero, List.set_cons_succ]
                  refine qw_run (v := .pointer (some ⟨X0.heap.size, 1, none⟩)) (by rfl) ?_ ?_
                  · (intro w9 hC; clear hC; go_simp; first | done | (simp; done) | (simp [*]; done) | omega | (simp; omega) | (rw [IntKind.wrap_i64]; omega) | (intro hx; omega) | rfl)
                  simp only [Act.put, List.setIfInBounds_toArray, List.set_cons_zero, List.set_cons_succ]
                  refine qw_run (v := .slice (some ⟨g, 0, none⟩) (m0 + 1) vc) (by rfl) ?_ ?_
                  · (intro w9 hC; have z1 := at_16 hC.t.n 1 _ rfl; clear hC; go_simp; first | done | (simp; done) | (simp [*]; done) | omega | (simp; omega) | (rw [IntKind.wrap_i64]; omega) | (intro hx; omega) | rfl)
                  simp only [Act.put, List.setIfInBounds_toArray, List.set_cons_zero, List.set_cons_succ]
                  refine qw_run (v := .pointer (some ⟨X0.heap.size, 1, none⟩)) (by rfl) ?_ ?_
                  · (intro w9 hC; clear hC; go_simp; first | done | (simp; done) | (simp [*]; done) | omega | (simp; omega) | (rw [IntKind.wrap_i64]; omega) | (intro hx; omega) | rfl)
                  simp only [Act.put, List.setIfInBounds_toArray, List.set_cons_zero, List.set_cons_succ]
                  refine qw_run (v := .slice (some ⟨g, 0, none⟩) (m0 + 1) vc) (by rfl) ?_ ?_
                  · (intro w9 hC; have z1 := at_16 hC.t.n 1 _ rfl; clear hC; go_simp; first | done | (simp; done) | (simp [*]; done) | omega | (simp; omega) | (rw [IntKind.wrap_i64]; omega) | (intro hx; omega) | rfl)
                  simp only [Act.put, List.setIfInBounds_toArray, List.set_cons_zero, List.set_cons_succ]
                  refine qw_run (v := .int .i64 ((m0 + 1 : Nat) : Int)) (by rfl) ?_ ?_
                  · (intro w9 hC; clear hC; go_simp; first | done | (simp; done) | (simp [*]; done) | omega | (simp; omega) | (rw [IntKind.wrap_i64]; omega) | (intro hx; omega) | rfl)
                  simp only [Act.put, List.setIfInBounds_toArray, List.set_cons_zero, List.set_cons_succ]
                  refine qw_run (v := .int .i64 (m0 : Int)) (by rfl) ?_ ?_
                  · (intro w9 hC; clear hC; go_simp; first | done | (simp; done) | (simp [*]; done) | omega | (simp; omega) | (rw [IntKind.wrap_i64]; omega) | (intro hx; omega) | rfl)
                  simp only [Act.put, List.setIfInBounds_toArray, List.set_cons_zero, List.set_cons_succ]
                  refine qw_run (v := .pointer (some ⟨g, m0 * 4, none⟩)) (by rfl) ?_ ?_
                  · (intro w9 hC; clear hC; go_simp; first | done | (simp; done) | (simp [*]; done) | omega | (simp; omega) | (rw [IntKind.wrap_i64]; omega) | (intro hx; omega) | rfl)
                  simp only [Act.put, List.setIfInBounds_toArray, List.set_cons_zero, List.set_cons_succ]
                  refine qw_run (v := .pointer (some ⟨g, m0 * 4 + 2, none⟩)) (by rfl) ?_ ?_
                  · (intro w9 hC; clear hC; go_simp; first | done | (simp; done) | (simp [*]; done) | omega | (simp; omega) | (rw [IntKind.wrap_i64]; omega) | (intro hx; omega) | rfl)
                  simp only [Act.put, List.setIfInBounds_toArray, List.set_cons_zero, List.set_cons_succ]
                  refine qw_run (v := .bool false) (by rfl) ?_ ?_
                  · (intro w9 hC; obtain ⟨c0, c1, c2, c3⟩ := HLa.out _ hC.t.o; dsimp only at c2 c3; clear hC; go_simp; first | done | (simp; done) | (simp [*]; done) | omega | (simp; omega) | (rw [IntKind.wrap_i64]; omega) | (intro hx; omega) | rfl)
                  simp only [Act.put, List.setIfInBounds_toArray, List.set_cons_zero, List.set_cons_succ]
                  refine qw_run (v := .pointer (some ⟨wr.heap.size, 2, none⟩)) (by rfl) ?_ ?_
                  · (intro w9 hC; clear hC; go_simp; first | done | (simp; done) | (simp [*]; done) | omega | (simp; omega) | (rw [IntKind.wrap_i64]; omega) | (intro hx; omega) | rfl)
                  simp only [Act.put, List.setIfInBounds_toArray, List.set_cons_zero, List.set_cons_succ]
                  refine qw_run (v := .bool false) (by rfl) ?_ ?_
                  · (intro w9 hC; have c2 := at_16 hC.r 2 _ rfl; have c3 := at_16 hC.r 3 _ rfl; dsimp only at c2 c3; clear hC; go_simp; first | done | (simp; done) | (simp [*]; done) | omega | (simp; omega) | (rw [IntKind.wrap_i64]; omega) | (intro hx; omega) | rfl)
                  simp only [Act.put, List.setIfInBounds_toArray, List.set_cons_zero, List.set_cons_succ]
                  refine qw_run (v := .bool true) (by rfl) ?_ ?_
                  · (intro w9 hC; clear hC; go_simp; first | done | (simp; done) | (simp [*]; done) | omega | (simp; omega) | (rw [IntKind.wrap_i64]; omega) | (intro hx; omega) | rfl)
                  simp only [Act.put, List.setIfInBounds_toArray, List.set_cons_zero, List.set_cons_succ]
                  refine qw_run (v := .bool true) (by rfl) ?_ ?_
                  · (intro w9 hC; clear hC; go_simp; first | done | (simp; done) | (simp [*]; done) | omega | (simp; omega) | (rw [IntKind.wrap_i64]; omega) | (intro hx; omega) | rfl)
                  simp only [Act.put, List.setIfInBounds_toArray, List.set_cons_zero, List.set_cons_succ]
                  refine qw_run (v := .bool true) (by rfl) ?_ ?_
                  · (intro w9 hC; clear hC; go_simp; first | done | (simp; done) | (simp [*]; done) | omega | (simp; omega) | (rw [IntKind.wrap_i64]; omega) | (intro hx; omega) | rfl)
                  simp only [Act.put, List.setIfInBounds_toArray, List.set_cons_zero, List.set_cons_succ]
                  refine qw_run (v := .pointer (some ⟨X0.heap.size, 1, none⟩)) (by rfl) ?_ ?_
                  · (intro w9 hC; clear hC; go_simp; first | done | (simp; done) | (simp [*]; done) | omega | (simp; omega) | (rw [IntKind.wrap_i64]; omega) | (intro hx; omega) | rfl)
                  simp only [Act.put, List.setIfInBounds_toArray, List.set_cons_zero, List.set_cons_succ]
                  refine qw_run (v := .slice (some ⟨g, 0, none⟩) (m0 + 1) vc) (by rfl) ?_ ?_
                  · (intro w9 hC; have z1 := at_16 hC.t.n 1 _ rfl; clear hC; go_simp; first | done | (simp; done) | (simp [*]; done) | omega | (simp; omega) | (rw [IntKind.wrap_i64]; omega) | (intro hx; omega) | rfl)
                  simp only [Act.put, List.setIfInBounds_toArray, List.set_cons_zero, List.set_cons_succ]
                  refine qw_run (v := .pointer (some ⟨X0.heap.size, 1, none⟩)) (by rfl) ?_ ?_
                  · (intro w9 hC; clear hC; go_simp; first | done | (simp; done) | (simp [*]; done) | omega | (simp; omega) | (rw [IntKind.wrap_i64]; omega) | (intro hx; omega) | rfl)
                  simp only [Act.put, List.setIfInBounds_toArray, List.set_cons_zero, List.set_cons_succ]
                  refine qw_run (v := .slice (some ⟨g, 0, none⟩) (m0 + 1) vc) (by rfl) ?_ ?_
                  · (intro w9 hC; have z1 := at_16 hC.t.n 1 _ rfl; clear hC; go_simp; first | done | (simp; done) | (simp [*]; done) | omega | (simp; omega) | (rw [IntKind.wrap_i64]; omega) | (intro hx; omega) | rfl)
                  simp only [Act.put, List.setIfInBounds_toArray, List.set_cons_zero, List.set_cons_succ]
                  refine qw_run (v := .int .i64 ((m0 + 1 : Nat) : Int)) (by rfl) ?_ ?_
                  · (intro w9 hC; clear hC; go_simp; first | done | (simp; done) | (simp [*]; done) | omega | (simp; omega) | (rw [IntKind.wrap_i64]; omega) | (intro hx; omega) | rfl)
                  simp only [Act.put, List.setIfInBounds_toArray, List.set_cons_zero, List.set_cons_succ]
                  refine qw_run (v := .int .i64 (m0 : Int)) (by rfl) ?_ ?_
                  · (intro w9 hC; clear hC; go_simp; first | done | (simp; done) | (simp [*]; done) | omega | (simp; omega) | (rw [IntKind.wrap_i64]; omega) | (intro hx; omega) | rfl)
                  simp only [Act.put, List.setIfInBounds_toArray, List.set_cons_zero, List.set_cons_succ]
                  refine qw_run (v := .pointer (some ⟨g, m0 * 4, none⟩)) (by rfl) ?_ ?_
                  · (intro w9 hC; clear hC; go_simp; first | done | (simp; done) | (simp [*]; done) | omega | (simp; omega) | (rw [IntKind.wrap_i64]; omega) | (intro hx; omega) | rfl)
                  simp only [Act.put, List.setIfInBounds_toArray, List.set_cons_zero, List.set_cons_succ]
                  refine qw_run (v := .pointer (some ⟨g, m0 * 4 + 3, none⟩)) (by rfl) ?_ ?_
                  · (intro w9 hC; clear hC; go_simp; first | done | (simp; done) | (simp [*]; done) | omega | (simp; omega) | (rw [IntKind.wrap_i64]; omega) | (intro hx; omega) | rfl)
                  simp only [Act.put, List.setIfInBounds_toArray, List.set_cons_zero, List.set_cons_succ]
                  refine qw_run (v := .int .i64 qn) (by rfl) ?_ ?_
                  · (intro w9 hC; obtain ⟨c0, c1, c2, c3⟩ := HLa.out _ hC.t.o; dsimp only at c2 c3; clear hC; go_simp; first | done | (simp; done) | (simp [*]; done) | omega | (simp; omega) | (rw [IntKind.wrap_i64]; omega) | (intro hx; omega) | rfl)
                  simp only [Act.put, List.setIfInBounds_toArray, List.set_cons_zero, List.set_cons_succ]
                  refine qw_run (v := .pointer (some ⟨wr.heap.size, 3, none⟩)) (by rfl) ?_ ?_
                  · (intro w9 hC; clear hC; go_simp; first | done | (simp; done) | (simp [*]; done) | omega | (simp; omega) | (rw [IntKind.wrap_i64]; omega) | (intro hx; omega) | rfl)
                  simp only [Act.put, List.setIfInBounds_toArray, List.set_cons_zero, List.set_cons_succ]
                  refine qw_run (v := .int .i64 qn) (by rfl) ?_ ?_
                  · (intro w9 hC; have c2 := at_16 hC.r 2 _ rfl; have c3 := at_16 hC.r 3 _ rfl; dsimp only at c2 c3; clear hC; go_simp; first | done | (simp; done) | (simp [*]; done) | omega | (simp; omega) | (rw [IntKind.wrap_i64]; omega) | (intro hx; omega) | rfl)
                  simp only [Act.put, List.setIfInBounds_toArray, List.set_cons_zero, List.set_cons_succ]
                  refine qw_run (v := .bool true) (by rfl) ?_ ?_
                  · (intro w9 hC; clear hC; go_simp; first | done | (simp; done) | (simp [*]; done) | omega | (simp; omega) | (rw [IntKind.wrap_i64]; omega) | (intro hx; omega) | rfl)
                  simp only [Act.put, List.setIfInBounds_toArray, List.set_cons_zero, List.set_cons_succ]
                  refine qw_run (v := .bool true) (by rfl) ?_ ?_
                  · (intro w9 hC; clear hC; go_simp; first | done | (simp; done) | (simp [*]; done) | omega | (simp; omega) | (rw [IntKind.wrap_i64]; omega) | (intro hx; omega) | rfl)
                  simp only [Act.put, List.setIfInBounds_toArray, List.set_cons_zero, List.set_cons_succ]
                  refine qw_nil ?_
                  (try simp only [putAll, Act.put, List.setIfInBounds_toArray, List.set_cons_zero, List.set_cons_succ])
                  intro Y hY
                  have HY := hid13 hY
                  clear hY me mw mlt m00 m01 m02 HLa HSx
                  go_wp2
                  go_roundg (gk - 1)
                  case measure => have := HJ2.out; omega
                  case rel => exact ⟨k + 1, _, RS0 ++ [⟨qf, false, qn⟩], by have := HJ2.out; omega, rfl, hid13 ⟨HY.out.t, by rw [← HF.out, HD.out, HF0.out, HMg.out], by rw [HM.out]; have := HM2.out; omega⟩⟩
                · have hqf : (qn == rn) = false := by simpa using hqn
                  have HMg : Hid (mgR (RS0 ++ [⟨qf, false, qn⟩]) ⟨rf, false, rn⟩ = RS0 ++ [⟨qf, false, qn⟩] ++ [⟨rf, false, rn⟩]) := hid13 (by rw [mgR_app]; unfold smR; simp [hqn])
                  clear hqn
                  go_wp2_with fail
                  refine qw_region (C := (fun X => NbS X0 db (.slice (some ⟨g, 0, none⟩) (m0 + 1) vc) (RS0 ++ [⟨qf, false, qn⟩]) wr.heap.size ⟨rf, false, rn⟩ X)) (by kernel_rfl) (by kernel_rfl) (HSx.out.below (Below.refl _ _).drew) ?_
                  refine qw_run (v := .pointer (some ⟨X0.heap.size, 1, none⟩)) (by rfl) ?_ ?_
                  · (intro w9 hC; clear hC; go_simp; first | done | (simp; done) | (simp [*]; done) | omega | (simp; omega) | (rw [IntKind.wrap_i64]; omega) | (intro hx; omega) | rfl)
                  simp only [Act.put, List.setIfInBounds_toArray, List.set_cons_zero, List.set_cons_succ]
                  refine qw_run (v := .slice (some ⟨g, 0, none⟩) (m0 + 1) vc) (by rfl) ?_ ?_
                  · (intro w9 hC; have z1 := at_16 hC.t.n 1 _ rfl; clear hC; go_simp; first | done | (simp; done) | (simp [*]; done) | omega | (simp; omega) | (rw [IntKind.wrap_i64]; omega) | (intro hx; omega) | rfl)
                  simp only [Act.put, List.setIfInBounds_toArray, List.set_cons_zero, List.set_cons_succ]
                  refine qw_run (v := .int .i64 ((m0 + 1 : Nat) : Int)) (by rfl) ?_ ?_
                  · (intro w9 hC; clear hC; go_simp; first | done | (simp; done) | (simp [*]; done) | omega | (simp; omega) | (rw [IntKind.wrap_i64]; omega) | (intro hx; omega) | rfl)
                  simp only [Act.put, List.setIfInBounds_toArray, List.set_cons_zero, List.set_cons_succ]
                  refine qw_run (v := .bool true) (by rfl) ?_ ?_
                  · (intro w9 hC; clear hC; go_simp; first | done | (simp; done) | (simp [*]; done) | omega | (simp; omega) | (rw [IntKind.wrap_i64]; omega) | (intro hx; omega) | rfl)
                  simp only [Act.put, List.setIfInBounds_toArray, List.set_cons_zero, List.set_cons_succ]
                  refine qw_run (v := .bool true) (by rfl) ?_ ?_
                  · (intro w9 hC; clear hC; go_simp; first | done | (simp; done) | (simp [*]; done) | omega | (simp; omega) | (rw [IntKind.wrap_i64]; omega) | (intro hx; omega) | rfl)
                  simp only [Act.put, List.setIfInBounds_toArray, List.set_cons_zero, List.set_cons_succ]
                  refine qw_run (v := .pointer (some ⟨X0.heap.size, 1, none⟩)) (by rfl) ?_ ?_
                  · (intro w9 hC; clear hC; go_simp; first | done | (simp; done) | (simp [*]; done) | omega | (simp; omega) | (rw [IntKind.wrap_i64]; omega) | (intro hx; omega) | rfl)
                  simp only [Act.put, List.setIfInBounds_toArray, List.set_cons_zero, List.set_cons_succ]
                  refine qw_run (v := .slice (some ⟨g, 0, none⟩) (m0 + 1) vc) (by rfl) ?_ ?_
                  · (intro w9 hC; have z1 := at_16 hC.t.n 1 _ rfl; clear hC; go_simp; first | done | (simp; done) | (simp [*]; done) | omega | (simp; omega) | (rw [IntKind.wrap_i64]; omega) | (intro hx; omega) | rfl)
                  simp only [Act.put, List.setIfInBounds_toArray, List.set_cons_zero, List.set_cons_succ]
                  refine qw_run (v := .pointer (some ⟨X0.heap.size, 1, none⟩)) (by rfl) ?_ ?_
                  · (intro w9 hC; clear hC; go_simp; first | done | (simp; done) | (simp [*]; done) | omega | (simp; omega) | (rw [IntKind.wrap_i64]; omega) | (intro hx; omega) | rfl)
                  simp only [Act.put, List.setIfInBounds_toArray, List.set_cons_zero, List.set_cons_succ]
                  refine qw_run (v := .slice (some ⟨g, 0, none⟩) (m0 + 1) vc) (by rfl) ?_ ?_
                  · (intro w9 hC; have z1 := at_16 hC.t.n 1 _ rfl; clear hC; go_simp; first | done | (simp; done) | (simp [*]; done) | omega | (simp; omega) | (rw [IntKind.wrap_i64]; omega) | (intro hx; omega) | rfl)
                  simp only [Act.put, List.setIfInBounds_toArray, List.set_cons_zero, List.set_cons_succ]
                  refine qw_run (v := .int .i64 ((m0 + 1 : Nat) : Int)) (by rfl) ?_ ?_
                  · (intro w9 hC; clear hC; go_simp; first | done | (simp; done) | (simp [*]; done) | omega | (simp; omega) | (rw [IntKind.wrap_i64]; omega) | (intro hx; omega) | rfl)
                  simp only [Act.put, List.setIfInBounds_toArray, List.set_cons_zero, List.set_cons_succ]
                  refine qw_run (v := .int .i64 (m0 : Int)) (by rfl) ?_ ?_
                  · (intro w9 hC; clear hC; go_simp; first | done | (simp; done) | (simp [*]; done) | omega | (simp; omega) | (rw [IntKind.wrap_i64]; omega) | (intro hx; omega) | rfl)
                  simp only [Act.put, List.setIfInBounds_toArray, List.set_cons_zero, List.set_cons_succ]
                  refine qw_run (v := .pointer (some ⟨g, m0 * 4, none⟩)) (by rfl) ?_ ?_
                  · (intro w9 hC; clear hC; go_simp; first | done | (simp; done) | (simp [*]; done) | omega | (simp; omega) | (rw [IntKind.wrap_i64]; omega) | (intro hx; omega) | rfl)
                  simp only [Act.put, List.setIfInBounds_toArray, List.set_cons_zero, List.set_cons_succ]
                  refine qw_run (v := .pointer (some ⟨g, m0 * 4 + 2, none⟩)) (by rfl) ?_ ?_
                  · (intro w9 hC; clear hC; go_simp; first | done | (simp; done) | (simp [*]; done) | omega | (simp; omega) | (rw [IntKind.wrap_i64]; omega) | (intro hx; omega) | rfl)
                  simp only [Act.put, List.setIfInBounds_toArray, List.set_cons_zero, List.set_cons_succ]
                  refine qw_run (v := .bool false) (by rfl) ?_ ?_
                  · (intro w9 hC; obtain ⟨c0, c1, c2, c3⟩ := HLa.out _ hC.t.o; dsimp only at c2 c3; clear hC; go_simp; first | done | (simp; done) | (simp [*]; done) | omega | (simp; omega) | (rw [IntKind.wrap_i64]; omega) | (intro hx; omega) | rfl)
                  simp only [Act.put, List.setIfInBounds_toArray, List.set_cons_zero, List.set_cons_succ]
                  refine qw_run (v := .pointer (some ⟨wr.heap.size, 2, none⟩)) (by rfl) ?_ ?_
                  · (intro w9 hC; clear hC; go_simp; first | done | (simp; done) | (simp [*]; done) | omega | (simp; omega) | (rw [IntKind.wrap_i64]; omega) | (intro hx; omega) | rfl)
                  simp only [Act.put, List.setIfInBounds_toArray, List.set_cons_zero, List.set_cons_succ]
                  refine qw_run (v := .bool false) (by rfl) ?_ ?_
                  · (intro w9 hC; have c2 := at_16 hC.r 2 _ rfl; have c3 := at_16 hC.r 3 _ rfl; dsimp only at c2 c3; clear hC; go_simp; first | done | (simp; done) | (simp [*]; done) | omega | (simp; omega) | (rw [IntKind.wrap_i64]; omega) | (intro hx; omega) | rfl)
                  simp only [Act.put, List.setIfInBounds_toArray, List.set_cons_zero, List.set_cons_succ]
                  refine qw_run (v := .bool true) (by rfl) ?_ ?_
                  · (intro w9 hC; clear hC; go_simp; first | done | (simp; done) | (simp [*]; done) | omega | (simp; omega) | (rw [IntKind.wrap_i64]; omega) | (intro hx; omega) | rfl)
                  simp only [Act.put, List.setIfInBounds_toArray, List.set_cons_zero, List.set_cons_succ]
                  refine qw_run (v := .bool true) (by rfl) ?_ ?_
                  · (intro w9 hC; clear hC; go_simp; first | done | (simp; done) | (simp [*]; done) | omega | (simp; omega) | (rw [IntKind.wrap_i64]; omega) | (intro hx; omega) | rfl)
                  simp only [Act.put, List.setIfInBounds_toArray, List.set_cons_zero, List.set_cons_succ]
                  refine qw_run (v := .bool true) (by rfl) ?_ ?_
                  · (intro w9 hC; clear hC; go_simp; first | done | (simp; done) | (simp [*]; done) | omega | (simp; omega) | (rw [IntKind.wrap_i64]; omega) | (intro hx; omega) | rfl)
                  simp only [Act.put, List.setIfInBounds_toArray, List.set_cons_zero, List.set_cons_succ]
                  refine qw_run (v := .pointer (some ⟨X0.heap.size, 1, none⟩)) (by rfl) ?_ ?_
                  · (intro w9 hC; clear hC; go_simp; first | done | (simp; done) | (simp [*]; done) | omega | (simp; omega) | (rw [IntKind.wrap_i64]; omega) | (intro hx; omega) | rfl)
                  simp only [Act.put, List.setIfInBounds_toArray, List.set_cons_zero, List.set_cons_succ]
                  refine qw_run (v := .slice (some ⟨g, 0, none⟩) (m0 + 1) vc) (by rfl) ?_ ?_
                  · (intro w9 hC; have z1 := at_16 hC.t.n 1 _ rfl; clear hC; go_simp; first | done | (simp; done) | (simp [*]; done) | omega | (simp; omega) | (rw [IntKind.wrap_i64]; omega) | (intro hx; omega) | rfl)
                  simp only [Act.put, List.setIfInBounds_toArray, List.set_cons_zero, List.set_cons_succ]
                  refine qw_run (v := .pointer (some ⟨X0.heap.size, 1, none⟩)) (by rfl) ?_ ?_
                  · (intro w9 hC; clear hC; go_simp; first | done | (simp; done) | (simp [*]; done) | omega | (simp; omega) | (rw [IntKind.wrap_i64]; omega) | (intro hx; omega) | rfl)
                  simp only [Act.put, List.setIfInBounds_toArray, List.set_cons_zero, List.set_cons_succ]
                  refine qw_run (v := .slice (some ⟨g, 0, none⟩) (m0 + 1) vc) (by rfl) ?_ ?_
                  · (intro w9 hC; have z1 := at_16 hC.t.n 1 _ rfl; clear hC; go_simp; first | done | (simp; done) | (simp [*]; done) | omega | (simp; omega) | (rw [IntKind.wrap_i64]; omega) | (intro hx; omega) | rfl)
                  simp only [Act.put, List.setIfInBounds_toArray, List.set_cons_zero, List.set_cons_succ]
                  refine qw_run (v := .int .i64 ((m0 + 1 : Nat) : Int)) (by rfl) ?_ ?_
                  · (intro w9 hC; clear hC; go_simp; first | done | (simp; done) | (simp [*]; done) | omega | (simp; omega) | (rw [IntKind.wrap_i64]; omega) | (intro hx; omega) | rfl)
                  simp only [Act.put, List.setIfInBounds_toArray, List.set_cons_zero, List.set_cons_succ]
                  refine qw_run (v := .int .i64 (m0 : Int)) (by rfl) ?_ ?_
                  · (intro w9 hC; clear hC; go_simp; first | done | (simp; done) | (simp [*]; done) | omega | (simp; omega) | (rw [IntKind.wrap_i64]; omega) | (intro hx; omega) | rfl)
                  simp only [Act.put, List.setIfInBounds_toArray, List.set_cons_zero, List.set_cons_succ]
                  refine qw_run (v := .pointer (some ⟨g, m0 * 4, none⟩)) (by rfl) ?_ ?_
                  · (intro w9 hC; clear hC; go_simp; first | done | (simp; done) | (simp [*]; done) | omega | (simp; omega) | (rw [IntKind.wrap_i64]; omega) | (intro hx; omega) | rfl)
                  simp only [Act.put, List.setIfInBounds_toArray, List.set_cons_zero, List.set_cons_succ]
                  refine qw_run (v := .pointer (some ⟨g, m0 * 4 + 3, none⟩)) (by rfl) ?_ ?_
                  · (intro w9 hC; clear hC; go_simp; first | done | (simp; done) | (simp [*]; done) | omega | (simp; omega) | (rw [IntKind.wrap_i64]; omega) | (intro hx; omega) | rfl)
                  simp only [Act.put, List.setIfInBounds_toArray, List.set_cons_zero, List.set_cons_succ]
                  refine qw_run (v := .int .i64 qn) (by rfl) ?_ ?_
                  · (intro w9 hC; obtain ⟨c0, c1, c2, c3⟩ := HLa.out _ hC.t.o; dsimp only at c2 c3; clear hC; go_simp; first | done | (simp; done) | (simp [*]; done) | omega | (simp; omega) | (rw [IntKind.wrap_i64]; omega) | (intro hx; omega) | rfl)
                  simp only [Act.put, List.setIfInBounds_toArray, List.set_cons_zero, List.set_cons_succ]
                  refine qw_run (v := .pointer (some ⟨wr.heap.size, 3, none⟩)) (by rfl) ?_ ?_
                  · (intro w9 hC; clear hC; go_simp; first | done | (simp; done) | (simp [*]; done) | omega | (simp; omega) | (rw [IntKind.wrap_i64]; omega) | (intro hx; omega) | rfl)
                  simp only [Act.put, List.setIfInBounds_toArray, List.set_cons_zero, List.set_cons_succ]
                  refine qw_run (v := .int .i64 rn) (by rfl) ?_ ?_
                  · (intro w9 hC; have c2 := at_16 hC.r 2 _ rfl; have c3 := at_16 hC.r 3 _ rfl; dsimp only at c2 c3; clear hC; go_simp; first | done | (simp; done) | (simp [*]; done) | omega | (simp; omega) | (rw [IntKind.wrap_i64]; omega) | (intro hx; omega) | rfl)
                  simp only [Act.put, List.setIfInBounds_toArray, List.set_cons_zero, List.set_cons_succ]
                  refine qw_run (v := .bool false) (by rfl) ?_ ?_
                  · (intro w9 hC; clear hC; go_simp; first | done | (simp; done) | (simp [*]; done) | omega | (simp; omega) | (rw [IntKind.wrap_i64]; omega) | (intro hx; omega) | rfl)
                  simp only [Act.put, List.setIfInBounds_toArray, List.set_cons_zero, List.set_cons_succ]
                  refine qw_run (v := .bool false) (by rfl) ?_ ?_
                  · (intro w9 hC; clear hC; go_simp; first | done | (simp; done) | (simp [*]; done) | omega | (simp; omega) | (rw [IntKind.wrap_i64]; omega) | (intro hx; omega) | rfl)
                  simp only [Act.put, List.setIfInBounds_toArray, List.set_cons_zero, List.set_cons_succ]
                  refine qw_nil ?_
                  (try simp only [putAll, Act.put, List.setIfInBounds_toArray, List.set_cons_zero, List.set_cons_succ])
                  intro Y hY
                  have HY := hid13 hY
                  clear hY me mw mlt m00 m01 m02 HLa HSx
                  have Y0 := HY.out
                  have f0 := at_16 Y0.r 0 _ rfl
                  have f1 := at_16 Y0.r 1 _ rfl
                  have f2 := at_16 Y0.r 2 _ rfl
                  have f3 := at_16 Y0.r 3 _ rfl
                  have d6 := at_16 Y0.t.n 1 _ rfl
                  dsimp only at f0 f1 f2 f3
                  clear Y0
                  go_wp2_with (at_builtin; apply stopHere9)
                  refine (show wpList _ _ _ _ _ _ from ?_)
                  clear f0 f1 f2 f3 d6
                  have b3 := bl1 Y (.cells #[.int .u64 (hI rf), .int .u64 (lI rf), .bool false, .int .i64 rn] 54)
                  have hT9 := HY.out.t.below b3
                  have ho := hT9.o
                  rw [HM.out] at ho
                  refine wpList_append_lies _ rfl _ _ 55 rfl (X0.heap.size + 1) 54 i0 (.agg #[.int .u64 0, .int .u64 0, .bool false, .int .i64 0]) 4 32 Try.underlying55 hi hz0 hz1 hz2 rfl (by decide) _ _ _ rfl ho ⟨Y.heap.size, 0, none⟩ 1 1 [.int .u64 (hI rf), .int .u64 (lI rf), .bool false, .int .i64 rn] rfl rfl (newsN18 Y (.int .u64 (hI rf)) (.int .u64 (lI rf)) (.bool false) (.int .i64 rn) 54) (by intro u hu; simp at hu; rcases hu with rfl | rfl | rfl | rfl <;> rfl) (by decide) (by have := HJ2.out; have := HM2.out; unfold maxLen; omega) (by have := HJ2.out; have := HM2.out; omega) (by have h1 := lt_16 hT9.n; omega) _ rfl ?_
                  intro g9 cap9 w9 h1 h2 h3 h4
                  have hrw : rowN ((RS0 ++ [⟨qf, false, qn⟩])) ++ [Value.int .u64 (hI rf), Value.int .u64 (lI rf), Value.bool false, Value.int .i64 rn] = rowN ((RS0 ++ [⟨qf, false, qn⟩]) ++ [⟨rf, false, rn⟩]) := (rowN_app18 ((RS0 ++ [⟨qf, false, qn⟩])) ⟨rf, false, rn⟩).symm
                  rw [hrw] at h1
                  obtain ⟨hp9, y0, yf⟩ := HY.out.t.push HM.out b3 h1 h2
                  have HP9 := hid13 hp9
                  clear hp9 h1 h2 h3 h4 hrw ho hT9 b3
                  go_wp2
                  go_roundg (gk - 1)
                  case measure => have := HJ2.out; omega
                  case rel => exact ⟨k + 1, _, (RS0 ++ [⟨qf, false, qn⟩]) ++ [⟨rf, false, rn⟩], by have := HJ2.out; omega, rfl, hid13 ⟨HP9.out, by rw [← HF.out, HD.out, HF0.out, HMg.out], by rw [List.length_append, HM.out]; have := HM2.out; have h9 : ([⟨rf, false, rn⟩] : List Rn).length = 1 := rfl; rw [h9]; omega⟩⟩
          | true =>
            obtain ⟨hn0, hn1⟩ := hkn rfl
            obtain ⟨nn, rfl⟩ : ∃ nn : Nat, rn = (nn : Int) := ⟨rn.toNat, by omega⟩
            have p2 := keepc (keepb (bl1 wr (.cells #[.int .u64 (hI rf), .int .u64 (lI rf), .bool true, .int .i64 (nn : Int)] 54)) HTn.out.b) (HIo.out.cell (k := nn) (by omega))
            obtain ⟨pm, hpm⟩ : ∃ pm, pm = C.getD nn 0 := ⟨_, rfl⟩
            rw [← hpm] at p2
            have HF0 : Hid (rnK (fun _ r => C.getD r.n.toNat 0) (dr.take k) ⟨rf, true, (nn : Int)⟩ = ⟨rf, true, pm⟩) := hid13 (by rw [hpm]; rfl)
            have HS0 := hid13 (NbS.new HTn.out ⟨rf, true, (nn : Int)⟩)
            have f2 := at_16 HS0.out.r 2 _ rfl
            have f3 := at_16 HS0.out.r 3 _ rfl
            have ff3 := fr_16 (j := 3) HS0.out.r
            dsimp only at f2 f3
            have HSx := hid13 (NbS.new HTn.out ⟨rf, true, pm⟩)
            clear hkn hn0 hpm
            have c6 := at_16 HTn.out.n 1 _ rfl
            have x2 := at_16 HSx.out.r 1 _ rfl
            have g0 := at_16 HSx.out.r 0 _ rfl
            have g1 := at_16 HSx.out.r 1 _ rfl
            have g2 := at_16 HSx.out.r 2 _ rfl
            have g3 := at_16 HSx.out.r 3 _ rfl
            have g6 := at_16 HSx.out.t.n 1 _ rfl
            dsimp only at g0 g1 g2 g3
            clear x2
            obtain ⟨m, hm⟩ : ∃ m, m = RS.length := ⟨_, rfl⟩
            have HM : Hid (RS.length = m) := hm.symm
            have HM2 : Hid (m ≤ k) := hid13 (by rw [hm]; exact HJ2.out.2.2.2)
            rw [← hm] at HSx g6 c6
            rcases List.eq_nil_or_concat RS with hRS | ⟨RS0, q, hRS⟩
            · subst hRS
              have hm0 : m = 0 := hm
              subst hm0
              have HMg : Hid (mgR [] ⟨rf, true, pm⟩ = [] ++ [⟨rf, true, pm⟩]) := rfl
              clear hm
              go_wp2_with fail
              go_quiet (fail)
              have HY0 := hid13 (HSx.out.below (below_drewN (Below.refl _ _) nq))
              clear HSx e0 e1 e2 e3 c1 c2 c6 g0 g1 g2 g3 g6 p2 f2 f3 ff3
              obtain ⟨RB, hRB⟩ : ∃ RB, RB = wr.heap.size := ⟨_, rfl⟩
              rw [← hRB] at HY0 ⊢
              revert HY0
              generalize (wr.alloc (.cells #[.int .u64 (hI rf), .int .u64 (lI rf), .bool true, .int .i64 pm] 54)).drewN nq = Y
              intro HY
              clear hRB
              have Y0 := HY.out
              have f0 := at_16 Y0.r 0 _ rfl
              have f1 := at_16 Y0.r 1 _ rfl
              have f2 := at_16 Y0.r 2 _ rfl
              have f3 := at_16 Y0.r 3 _ rfl
              have d6 := at_16 Y0.t.n 1 _ rfl
              dsimp only at f0 f1 f2 f3
              clear Y0
              go_wp2_with (at_builtin; apply stopHere9)
              refine (show wpList _ _ _ _ _ _ from ?_)
              clear f0 f1 f2 f3 d6
              have b3 := bl1 Y (.cells #[.int .u64 (hI rf), .int .u64 (lI rf), .bool true, .int .i64 pm] 54)
              have hT9 := HY.out.t.below b3
              have ho := hT9.o
              rw [HM.out] at ho
              refine wpList_append_lies _ rfl _ _ 55 rfl (X0.heap.size + 1) 54 i0 (.agg #[.int .u64 0, .int .u64 0, .bool false, .int .i64 0]) 4 32 Try.underlying55 hi hz0 hz1 hz2 rfl (by decide) _ _ _ rfl ho ⟨Y.heap.size, 0, none⟩ 1 1 [.int .u64 (hI rf), .int .u64 (lI rf), .bool true, .int .i64 pm] rfl rfl (newsN18 Y (.int .u64 (hI rf)) (.int .u64 (lI rf)) (.bool true) (.int .i64 pm) 54) (by intro u hu; simp at hu; rcases hu with rfl | rfl | rfl | rfl <;> rfl) (by decide) (by have := HJ2.out; have := HM2.out; unfold maxLen; omega) (by have := HJ2.out; have := HM2.out; omega) (by have h1 := lt_16 hT9.n; omega) _ rfl ?_
              intro g9 cap9 w9 h1 h2 h3 h4
              have hrw : rowN ([]) ++ [Value.int .u64 (hI rf), Value.int .u64 (lI rf), Value.bool true, Value.int .i64 pm] = rowN ([] ++ [⟨rf, true, pm⟩]) := (rowN_app18 ([]) ⟨rf, true, pm⟩).symm
              rw [hrw] at h1
              obtain ⟨hp9, y0, yf⟩ := HY.out.t.push HM.out b3 h1 h2
              have HP9 := hid13 hp9
              clear hp9 h1 h2 h3 h4 hrw ho hT9 b3
              go_wp2
              go_roundg (gk - 1)
              case measure => have := HJ2.out; omega
              case rel => exact ⟨k + 1, _, [] ++ [⟨rf, true, pm⟩], by have := HJ2.out; omega, rfl, hid13 ⟨HP9.out, by rw [← HF.out, HD.out, HF0.out, HMg.out], by rw [List.length_append, HM.out]; have := HM2.out; have h9 : ([⟨rf, true, pm⟩] : List Rn).length = 1 := rfl; rw [h9]; omega⟩⟩
            · rw [List.concat_eq_append] at hRS
              subst hRS
              obtain ⟨m0, rfl⟩ : ∃ m0, m = m0 + 1 := ⟨RS0.length, by rw [hm]; simp⟩
              have hm0 : RS0.length = m0 := by simpa using hm.symm
              obtain ⟨qf, qk, qn⟩ := q
              have hov := HSx.out.t.o
              rw [HM.out] at hov
              obtain ⟨g, cap, hvg, -⟩ := own_some18 hov (Nat.succ_pos m0)
              injection hvg with hvg1 hvg2 hvg3
              subst hvg1
              have hmb : m0 ≤ 1000000000 := Nat.le_trans (Nat.le_succ m0) (Nat.le_trans HM2.out (Nat.le_trans (Nat.le_of_lt HJ2.out.1) (Nat.le_trans HJ2.out.2.2.1 (by decide))))
              have me := me12 m0 hmb
              have mw := mw12 m0 hmb
              have mlt : (m0 : Int) < ((m0 + 1 : Nat) : Int) := Int.ofNat_lt.mpr (Nat.lt_succ_self m0)
              have m02 := mx12 m0 hmb
              have m00 : ¬ (m0 : Int) < 0 := Int.not_lt.mpr (Int.natCast_nonneg m0)
              have m01 : (0 : Int) < ((m0 + 1 : Nat) : Int) := Int.natCast_pos.mpr (Nat.succ_pos m0)
              have HLa := hid13 (fun (X : World) (h : X.ownsRow (X0.heap.size + 1) 54 4 (.slice (some ⟨g, 0, none⟩) (m0 + 1) vc) (RS0 ++ [(⟨qf, qk, qn⟩ : Rn)]).length (rowN (RS0 ++ [(⟨qf, qk, qn⟩ : Rn)]))) => own_last12 (by rw [HM.out] at h; exact h) hm0)
              clear hm hov hvg2 hvg3 hm0 hmb
              cases qk with
              | false =>
                have HMg : Hid (mgR (RS0 ++ [⟨qf, false, qn⟩]) ⟨rf, true, pm⟩ = RS0 ++ [⟨qf, false, qn⟩] ++ [⟨rf, true, pm⟩]) := hid13 (by rw [mgR_app]; rfl)
                go_wp2_with fail
                refine qw_region (C := (fun X => NbS X0 db (.slice (some ⟨g, 0, none⟩) (m0 + 1) vc) (RS0 ++ [⟨qf, false, qn⟩]) wr.heap.size ⟨rf, true, pm⟩ X)) (by kernel_rfl) (by kernel_rfl) (HSx.out.below (Below.refl _ _).drew) ?_
                refine qw_run (v := .pointer (some ⟨X0.heap.size, 1, none⟩)) (by rfl) ?_ ?_
                · (intro w9 hC; clear hC; go_simp; first | done | (simp; done) | (simp [*]; done) | omega | (simp; omega) | (rw [IntKind.wrap_i64]; omega) | (intro hx; omega) | rfl)
                simp only [Act.put, List.setIfInBounds_toArray, List.set_cons_zero, List.set_cons_succ]
                refine qw_run (v := .slice (some ⟨g, 0, none⟩) (m0 + 1) vc) (by rfl) ?_ ?_
                · (intro w9 hC; have z1 := at_16 hC.t.n 1 _ rfl; clear hC; go_simp; first | done | (simp; done) | (simp [*]; done) | omega | (simp; omega) | (rw [IntKind.wrap_i64]; omega) | (intro hx; omega) | rfl)
                simp only [Act.put, List.setIfInBounds_toArray, List.set_cons_zero, List.set_cons_succ]
                refine qw_run (v := .int .i64 ((m0 + 1 : Nat) : Int)) (by rfl) ?_ ?_
                · (intro w9 hC; clear hC; go_simp; first | done | (simp; done) | (simp [*]; done) | omega | (simp; omega) | (rw [IntKind.wrap_i64]; omega) | (intro hx; omega) | rfl)
                simp only [Act.put, List.setIfInBounds_toArray, List.set_cons_zero, List.set_cons_succ]
                refine qw_run (v := .bool true) (by rfl) ?_ ?_
                · (intro w9 hC; clear hC; go_simp; first | done | (simp; done) | (simp [*]; done) | omega | (simp; omega) | (rw [IntKind.wrap_i64]; omega) | (intro hx; omega) | rfl)
                simp only [Act.put, List.setIfInBounds_toArray, List.set_cons_zero, List.set_cons_succ]
                refine qw_run (v := .bool true) (by rfl) ?_ ?_
                · (intro w9 hC; clear hC; go_simp; first | done | (simp; done) | (simp [*]; done) | omega | (simp; omega) | (rw [IntKind.wrap_i64]; omega) | (intro hx; omega) | rfl)
                simp only [Act.put, List.setIfInBounds_toArray, List.set_cons_zero, List.set_cons_succ]
                refine qw_run (v := .pointer (some ⟨X0.heap.size, 1, none⟩)) (by rfl) ?_ ?_
                · (intro w9 hC; clear hC; go_simp; first | done | (simp; done) | (simp [*]; done) | omega | (simp; omega) | (rw [IntKind.wrap_i64]; omega) | (intro hx; omega) | rfl)
                simp only [Act.put, List.setIfInBounds_toArray, List.set_cons_zero, List.set_cons_succ]
                refine qw_run (v := .slice (some ⟨g, 0, none⟩) (m0 + 1) vc) (by rfl) ?_ ?_
                · (intro w9 hC; have z1 := at_16 hC.t.n 1 _ rfl; clear hC; go_simp; first | done | (simp; done) | (simp [*]; done) | omega | (simp; omega) | (rw [IntKind.wrap_i64]; omega) | (intro hx; omega) | rfl)
                simp only [Act.put, List.setIfInBounds_toArray, List.set_cons_zero, List.set_cons_succ]
                refine qw_run (v := .pointer (some ⟨X0.heap.size, 1, none⟩)) (by rfl) ?_ ?_
                · (intro w9 hC; clear hC; go_simp; first | done | (simp; done) | (simp [*]; done) | omega | (simp; omega) | (rw [IntKind.wrap_i64]; omega) | (intro hx; omega) | rfl)
                simp only [Act.put, List.setIfInBounds_toArray, List.set_cons_zero, List.set_cons_succ]
                refine qw_run (v := .slice (some ⟨g, 0, none⟩) (m0 + 1) vc) (by rfl) ?_ ?_
                · (intro w9 hC; have z1 := at_16 hC.t.n 1 _ rfl; clear hC; go_simp; first | done | (simp; done) | (simp [*]; done) | omega | (simp; omega) | (rw [IntKind.wrap_i64]; omega) | (intro hx; omega) | rfl)
                simp only [Act.put, List.setIfInBounds_toArray, List.set_cons_zero, List.set_cons_succ]
                refine qw_run (v := .int .i64 ((m0 + 1 : Nat) : Int)) (by rfl) ?_ ?_
                · (intro w9 hC; clear hC; go_simp; first | done | (simp; done) | (simp [*]; done) | omega | (simp; omega) | (rw [IntKind.wrap_i64]; omega) | (intro hx; omega) | rfl)
                simp only [Act.put, List.setIfInBounds_toArray, List.set_cons_zero, List.set_cons_succ]
                refine qw_run (v := .int .i64 (m0 : Int)) (by rfl) ?_ ?_
                · (intro w9 hC; clear hC; go_simp; first | done | (simp; done) | (simp [*]; done) | omega | (simp; omega) | (rw [IntKind.wrap_i64]; omega) | (intro hx; omega) | rfl)
                simp only [Act.put, List.setIfInBounds_toArray, List.set_cons_zero, List.set_cons_succ]
                refine qw_run (v := .pointer (some ⟨g, m0 * 4, none⟩)) (by rfl) ?_ ?_
                · (intro w9 hC; clear hC; go_simp; first | done | (simp; done) | (simp [*]; done) | omega | (simp; omega) | (rw [IntKind.wrap_i64]; omega) | (intro hx; omega) | rfl)
                simp only [Act.put, List.setIfInBounds_toArray, List.set_cons_zero, List.set_cons_succ]
                refine qw_run (v := .pointer (some ⟨g, m0 * 4 + 2, none⟩)) (by rfl) ?_ ?_
                · (intro w9 hC; clear hC; go_simp; first | done | (simp; done) | (simp [*]; done) | omega | (simp; omega) | (rw [IntKind.wrap_i64]; omega) | (intro hx; omega) | rfl)
                simp only [Act.put, List.setIfInBounds_toArray, List.set_cons_zero, List.set_cons_succ]
                refine qw_run (v := .bool false) (by rfl) ?_ ?_
                · (intro w9 hC; obtain ⟨c0, c1, c2, c3⟩ := HLa.out _ hC.t.o; dsimp only at c2 c3; clear hC; go_simp; first | done | (simp; done) | (simp [*]; done) | omega | (simp; omega) | (rw [IntKind.wrap_i64]; omega) | (intro hx; omega) | rfl)
                simp only [Act.put, List.setIfInBounds_toArray, List.set_cons_zero, List.set_cons_succ]
                refine qw_run (v := .pointer (some ⟨wr.heap.size, 2, none⟩)) (by rfl) ?_ ?_
                · (intro w9 hC; clear hC; go_simp; first | done | (simp; done) | (simp [*]; done) | omega | (simp; omega) | (rw [IntKind.wrap_i64]; omega) | (intro hx; omega) | rfl)
                simp only [Act.put, List.setIfInBounds_toArray, List.set_cons_zero, List.set_cons_succ]
                refine qw_run (v := .bool true) (by rfl) ?_ ?_
                · (intro w9 hC; have c2 := at_16 hC.r 2 _ rfl; have c3 := at_16 hC.r 3 _ rfl; dsimp only at c2 c3; clear hC; go_simp; first | done | (simp; done) | (simp [*]; done) | omega | (simp; omega) | (rw [IntKind.wrap_i64]; omega) | (intro hx; omega) | rfl)
                simp only [Act.put, List.setIfInBounds_toArray, List.set_cons_zero, List.set_cons_succ]
                refine qw_run (v := .bool false) (by rfl) ?_ ?_
                · (intro w9 hC; clear hC; go_simp; first | done | (simp; done) | (simp [*]; done) | omega | (simp; omega) | (rw [IntKind.wrap_i64]; omega) | (intro hx; omega) | rfl)
                simp only [Act.put, List.setIfInBounds_toArray, List.set_cons_zero, List.set_cons_succ]
                refine qw_run (v := .bool false) (by rfl) ?_ ?_
                · (intro w9 hC; clear hC; go_simp; first | done | (simp; done) | (simp [*]; done) | omega | (simp; omega) | (rw [IntKind.wrap_i64]; omega) | (intro hx; omega) | rfl)
                simp only [Act.put, List.setIfInBounds_toArray, List.set_cons_zero, List.set_cons_succ]
                refine qw_run (v := .bool false) (by rfl) ?_ ?_
                · (intro w9 hC; clear hC; go_simp; first | done | (simp; done) | (simp [*]; done) | omega | (simp; omega) | (rw [IntKind.wrap_i64]; omega) | (intro hx; omega) | rfl)
                simp only [Act.put, List.setIfInBounds_toArray, List.set_cons_zero, List.set_cons_succ]
                refine qw_skip (by rfl) ?_
                simp only [Act.put, List.setIfInBounds_toArray, List.set_cons_zero, List.set_cons_succ]
                refine qw_skip (by rfl) ?_
                simp only [Act.put, List.setIfInBounds_toArray, List.set_cons_zero, List.set_cons_succ]
                refine qw_skip (by rfl) ?_
                simp only [Act.put, List.setIfInBounds_toArray, List.set_cons_zero, List.set_cons_succ]
                refine qw_skip (by rfl) ?_
                simp only [Act.put, List.setIfInBounds_toArray, List.set_cons_zero, List.set_cons_succ]
                refine qw_skip (by rfl) ?_
                simp only [Act.put, List.setIfInBounds_toArray, List.set_cons_zero, List.set_cons_succ]
                refine qw_skip (by rfl) ?_
                simp only [Act.put, List.setIfInBounds_toArray, List.set_cons_zero, List.set_cons_succ]
                refine qw_skip (by rfl) ?_
                simp only [Act.put, List.setIfInBounds_toArray, List.set_cons_zero, List.set_cons_succ]
                refine qw_skip (by rfl) ?_
                simp only [Act.put, List.setIfInBounds_toArray, List.set_cons_zero, List.set_cons_succ]
                refine qw_skip (by rfl) ?_
                simp only [Act.put, List.setIfInBounds_toArray, List.set_cons_zero, List.set_cons_succ]
                refine qw_skip (by rfl) ?_
                simp only [Act.put, List.setIfInBounds_toArray, List.set_cons_zero, List.set_cons_succ]
                refine qw_skip (by rfl) ?_
                simp only [Act.put, List.setIfInBounds_toArray, List.set_cons_zero, List.set_cons_succ]
                refine qw_skip (by rfl) ?_
                simp only [Act.put, List.setIfInBounds_toArray, List.set_cons_zero, List.set_cons_succ]
                refine qw_run (v := .bool false) (by rfl) ?_ ?_
                · (intro w9 hC; clear hC; go_simp; first | done | (simp; done) | (simp [*]; done) | omega | (simp; omega) | (rw [IntKind.wrap_i64]; omega) | (intro hx; omega) | rfl)
                simp only [Act.put, List.setIfInBounds_toArray, List.set_cons_zero, List.set_cons_succ]
                refine qw_nil ?_
                (try simp only [putAll, Act.put, List.setIfInBounds_toArray, List.set_cons_zero, List.set_cons_succ])
                intro Y hY
                have HY := hid13 hY
                clear hY me mw mlt m00 m01 m02 HLa HSx
                have Y0 := HY.out
                have f0 := at_16 Y0.r 0 _ rfl
                have f1 := at_16 Y0.r 1 _ rfl
                have f2 := at_16 Y0.r 2 _ rfl
                have f3 := at_16 Y0.r 3 _ rfl
                have d6 := at_16 Y0.t.n 1 _ rfl
                dsimp only at f0 f1 f2 f3
                clear Y0
                go_wp2_with (at_builtin; apply stopHere9)
                refine (show wpList _ _ _ _ _ _ from ?_)
                clear f0 f1 f2 f3 d6
                have b3 := bl1 Y (.cells #[.int .u64 (hI rf), .int .u64 (lI rf), .bool true, .int .i64 pm] 54)
                have hT9 := HY.out.t.below b3
                have ho := hT9.o
                rw [HM.out] at ho
                refine wpList_append_lies _ rfl _ _ 55 rfl (X0.heap.size + 1) 54 i0 (.agg #[.int .u64 0, .int .u64 0, .bool false, .int .i64 0]) 4 32 Try.underlying55 hi hz0 hz1 hz2 rfl (by decide) _ _ _ rfl ho ⟨Y.heap.size, 0, none⟩ 1 1 [.int .u64 (hI rf), .int .u64 (lI rf), .bool true, .int .i64 pm] rfl rfl (newsN18 Y (.int .u64 (hI rf)) (.int .u64 (lI rf)) (.bool true) (.int .i64 pm) 54) (by intro u hu; simp at hu; rcases hu with rfl | rfl | rfl | rfl <;> rfl) (by decide) (by have := HJ2.out; have := HM2.out; unfold maxLen; omega) (by have := HJ2.out; have := HM2.out; omega) (by have h1 := lt_16 hT9.n; omega) _ rfl ?_
                intro g9 cap9 w9 h1 h2 h3 h4
                have hrw : rowN ((RS0 ++ [⟨qf, false, qn⟩])) ++ [Value.int .u64 (hI rf), Value.int .u64 (lI rf), Value.bool true, Value.int .i64 pm] = rowN ((RS0 ++ [⟨qf, false, qn⟩]) ++ [⟨rf, true, pm⟩]) := (rowN_app18 ((RS0 ++ [⟨qf, false, qn⟩])) ⟨rf, true, pm⟩).symm
                rw [hrw] at h1
                obtain ⟨hp9, y0, yf⟩ := HY.out.t.push HM.out b3 h1 h2
                have HP9 := hid13 hp9
                clear hp9 h1 h2 h3 h4 hrw ho hT9 b3
                go_wp2
                go_roundg (gk - 1)
                case measure => have := HJ2.out; omega
                case rel => exact ⟨k + 1, _, (RS0 ++ [⟨qf, false, qn⟩]) ++ [⟨rf, true, pm⟩], by have := HJ2.out; omega, rfl, hid13 ⟨HP9.out, by rw [← HF.out, HD.out, HF0.out, HMg.out], by rw [List.length_append, HM.out]; have := HM2.out; have h9 : ([⟨rf, true, pm⟩] : List Rn).length = 1 := rfl; rw [h9]; omega⟩⟩
              | true =>
                by_cases hqn : qn = pm
                · subst hqn
                  have HMg : Hid (mgR (RS0 ++ [⟨qf, true, qn⟩]) ⟨rf, true, qn⟩ = RS0 ++ [⟨qf, true, qn⟩]) := hid13 (by rw [mgR_app]; unfold smR; simp)
                  go_wp2_with fail
                  refine qw_region (C := (fun X => NbS X0 db (.slice (some ⟨g, 0, none⟩) (m0 + 1) vc) (RS0 ++ [⟨qf, true, qn⟩]) wr.heap.size ⟨rf, true, qn⟩ X)) (by kernel_rfl) (by kernel_rfl) (HSx.out.below (Below.refl _ _).drew) ?_
                  refine qw_run (v := .pointer (some ⟨X0.heap.size, 1, none⟩)) (by rfl) ?_ ?_
                  · (intro w9 hC; clear hC; go_simp; first | done | (simp; done) | (simp [*]; done) | omega | (simp; omega) | (rw [IntKind.wrap_i64]; omega) | (intro hx; omega) | rfl)
                  simp only [Act.put, List.setIfInBounds_toArray, List.set_cons_zero, List.set_cons_succ]
                  refine qw_run (v := .slice (some ⟨g, 0, none⟩) (m0 + 1) vc) (by rfl) ?_ ?_
                  · (intro w9 hC; have z1 := at_16 hC.t.n 1 _ rfl; clear hC; go_simp; first | done | (simp; done) | (simp [*]; done) | omega | (simp; omega) | (rw [IntKind.wrap_i64]; omega) | (intro hx; omega) | rfl)
                  simp only [Act.put, List.setIfInBounds_toArray, List.set_cons_zero, List.set_cons_succ]
                  refine qw_run (v := .int .i64 ((m0 + 1 : Nat) : Int)) (by rfl) ?_ ?_
                  · (intro w9 hC; clear hC; go_simp; first | done | (simp; done) | (simp [*]; done) | omega | (simp; omega) | (rw [IntKind.wrap_i64]; omega) | (intro hx; omega) | rfl)
                  simp only [Act.put, List.setIfInBounds_toArray, List.set_cons_zero, List.set_cons_succ]
                  refine qw_run (v := .bool true) (by rfl) ?_ ?_
                  · (intro w9 hC; clear hC; go_simp; first | done | (simp; done) | (simp [*]; done) | omega | (simp; omega) | (rw [IntKind.wrap_i64]; omega) | (intro hx; omega) | rfl)
                  simp only [Act.put, List.setIfInBounds_toArray, List.set_cons_zero, List.set_cons_succ]
                  refine qw_run (v := .bool true) (by rfl) ?_ ?_
                  · (intro w9 hC; clear hC; go_simp; first | done | (simp; done) | (simp [*]; done) | omega | (simp; omega) | (rw [IntKind.wrap_i64]; omega) | (intro hx; omega) | rfl)
                  simp only [Act.put, List.setIfInBounds_toArray, List.set_cons_zero, List.set_cons_succ]
                  refine qw_run (v := .pointer (some ⟨X0.heap.size, 1, none⟩)) (by rfl) ?_ ?_
                  · (intro w9 hC; clear hC; go_simp; first | done | (simp; done) | (simp [*]; done) | omega | (simp; omega) | (rw [IntKind.wrap_i64]; omega) | (intro hx; omega) | rfl)
                  simp only [Act.put, List.setIfInBounds_toArray, List.set_cons_zero, List.set_cons_succ]
                  refine qw_run (v := .slice (some ⟨g, 0, none⟩) (m0 + 1) vc) (by rfl) ?_ ?_
                  · (intro w9 hC; have z1 := at_16 hC.t.n 1 _ rfl; clear hC; go_simp; first | done | (simp; done) | (simp [*]; done) | omega | (simp; omega) | (rw [IntKind.wrap_i64]; omega) | (intro hx; omega) | rfl)
                  simp only [Act.put, List.setIfInBounds_toArray, List.set_cons_zero, List.set_cons_succ]
                  refine qw_run (v := .pointer (some ⟨X0.heap.size, 1, none⟩)) (by rfl) ?_ ?_
                  · (intro w9 hC; clear hC; go_simp; first | done | (simp; done) | (simp [*]; done) | omega | (simp; omega) | (rw [IntKind.wrap_i64]; omega) | (intro hx; omega) | rfl)
                  simp only [Act.put, List.setIfInBounds_toArray, List.set_cons_zero, List.set_cons_succ]
                  refine qw_run (v := .slice (some ⟨g, 0, none⟩) (m0 + 1) vc) (by rfl) ?_ ?_
                  · (intro w9 hC; have z1 := at_16 hC.t.n 1 _ rfl; clear hC; go_simp; first | done | (simp; done) | (simp [*]; done) | omega | (simp; omega) | (rw [IntKind.wrap_i64]; omega) | (intro hx; omega) | rfl)
                  simp only [Act.put, List.setIfInBounds_toArray, List.set_cons_zero, List.set_cons_succ]
                  refine qw_run (v := .int .i64 ((m0 + 1 : Nat) : Int)) (by rfl) ?_ ?_
                  · (intro w9 hC; clear hC; go_simp; first | done | (simp; done) | (simp [*]; done) | omega | (simp; omega) | (rw [IntKind.wrap_i64]; omega) | (intro hx; omega) | rfl)
                  simp only [Act.put, List.setIfInBounds_toArray, List.set_cons_zero, List.set_cons_succ]
                  refine qw_run (v := .int .i64 (m0 : Int)) (by rfl) ?_ ?_
                  · (intro w9 hC; clear hC; go_simp; first | done | (simp; done) | (simp [*]; done) | omega | (simp; omega) | (rw [IntKind.wrap_i64]; omega) | (intro hx; omega) | rfl)
                  simp only [Act.put, List.setIfInBounds_toArray, List.set_cons_zero, List.set_cons_succ]
                  refine qw_run (v := .pointer (some ⟨g, m0 * 4, none⟩)) (by rfl) ?_ ?_
                  · (intro w9 hC; clear hC; go_simp; first | done | (simp; done) | (simp [*]; done) | omega | (simp; omega) | (rw [IntKind.wrap_i64]; omega) | (intro hx; omega) | rfl)
                  simp only [Act.put, List.setIfInBounds_toArray, List.set_cons_zero, List.set_cons_succ]
                  refine qw_run (v := .pointer (some ⟨g, m0 * 4 + 2, none⟩)) (by rfl) ?_ ?_
                  · (intro w9 hC; clear hC; go_simp; first | done | (simp; done) | (simp [*]; done) | omega | (simp; omega) | (rw [IntKind.wrap_i64]; omega) | (intro hx; omega) | rfl)
                  simp only [Act.put, List.setIfInBounds_toArray, List.set_cons_zero, List.set_cons_succ]
                  refine qw_run (v := .bool true) (by rfl) ?_ ?_
                  · (intro w9 hC; obtain ⟨c0, c1, c2, c3⟩ := HLa.out _ hC.t.o; dsimp only at c2 c3; clear hC; go_simp; first | done | (simp; done) | (simp [*]; done) | omega | (simp; omega) | (rw [IntKind.wrap_i64]; omega) | (intro hx; omega) | rfl)
                  simp only [Act.put, List.setIfInBounds_toArray, List.set_cons_zero, List.set_cons_succ]
                  refine qw_run (v := .pointer (some ⟨wr.heap.size, 2, none⟩)) (by rfl) ?_ ?_
                  · (intro w9 hC; clear hC; go_simp; first | done | (simp; done) | (simp [*]; done) | omega | (simp; omega) | (rw [IntKind.wrap_i64]; omega) | (intro hx; omega) | rfl)
                  simp only [Act.put, List.setIfInBounds_toArray, List.set_cons_zero, List.set_cons_succ]
                  refine qw_run (v := .bool true) (by rfl) ?_ ?_
                  · (intro w9 hC; have c2 := at_16 hC.r 2 _ rfl; have c3 := at_16 hC.r 3 _ rfl; dsimp only at c2 c3; clear hC; go_simp; first | done | (simp; done) | (simp [*]; done) | omega | (simp; omega) | (rw [IntKind.wrap_i64]; omega) | (intro hx; omega) | rfl)
                  simp only [Act.put, List.setIfInBounds_toArray, List.set_cons_zero, List.set_cons_succ]
                  refine qw_run (v := .bool true) (by rfl) ?_ ?_
                  · (intro w9 hC; clear hC; go_simp; first | done | (simp; done) | (simp [*]; done) | omega | (simp; omega) | (rw [IntKind.wrap_i64]; omega) | (intro hx; omega) | rfl)
                  simp only [Act.put, List.setIfInBounds_toArray, List.set_cons_zero, List.set_cons_succ]
                  refine qw_run (v := .bool true) (by rfl) ?_ ?_
                  · (intro w9 hC; clear hC; go_simp; first | done | (simp; done) | (simp [*]; done) | omega | (simp; omega) | (rw [IntKind.wrap_i64]; omega) | (intro hx; omega) | rfl)
                  simp only [Act.put, List.setIfInBounds_toArray, List.set_cons_zero, List.set_cons_succ]
                  refine qw_run (v := .bool true) (by rfl) ?_ ?_
                  · (intro w9 hC; clear hC; go_simp; first | done | (simp; done) | (simp [*]; done) | omega | (simp; omega) | (rw [IntKind.wrap_i64]; omega) | (intro hx; omega) | rfl)
                  simp only [Act.put, List.setIfInBounds_toArray, List.set_cons_zero, List.set_cons_succ]
                  refine qw_run (v := .pointer (some ⟨X0.heap.size, 1, none⟩)) (by rfl) ?_ ?_
                  · (intro w9 hC; clear hC; go_simp; first | done | (simp; done) | (simp [*]; done) | omega | (simp; omega) | (rw [IntKind.wrap_i64]; omega) | (intro hx; omega) | rfl)
                  simp only [Act.put, List.setIfInBounds_toArray, List.set_cons_zero, List.set_cons_succ]
                  refine qw_run (v := .slice (some ⟨g, 0, none⟩) (m0 + 1) vc) (by rfl) ?_ ?_
                  · (intro w9 hC; have z1 := at_16 hC.t.n 1 _ rfl; clear hC; go_simp; first | done | (simp; done) | (simp [*]; done) | omega | (simp; omega) | (rw [IntKind.wrap_i64]; omega) | (intro hx; omega) | rfl)
                  simp only [Act.put, List.setIfInBounds_toArray, List.set_cons_zero, List.set_cons_succ]
                  refine qw_run (v := .pointer (some ⟨X0.heap.size, 1, none⟩)) (by rfl) ?_ ?_
                  · (intro w9 hC; clear hC; go_simp; first | done | (simp; done) | (simp [*]; done) | omega | (simp; omega) | (rw [IntKind.wrap_i64]; omega) | (intro hx; omega) | rfl)
                  simp only [Act.put, List.setIfInBounds_toArray, List.set_cons_zero, List.set_cons_succ]
                  refine qw_run (v := .slice (some ⟨g, 0, none⟩) (m0 + 1) vc) (by rfl) ?_ ?_
                  · (intro w9 hC; have z1 := at_16 hC.t.n 1 _ rfl; clear hC; go_simp; first | done | (simp; done) | (simp [*]; done) | omega | (simp; omega) | (rw [IntKind.wrap_i64]; omega) | (intro hx; omega) | rfl)
                  simp only [Act.put, List.setIfInBounds_toArray, List.set_cons_zero, List.set_cons_succ]
                  refine qw_run (v := .int .i64 ((m0 + 1 : Nat) : Int)) (by rfl) ?_ ?_
                  · (intro w9 hC; clear hC; go_simp; first | done | (simp; done) | (simp [*]; done) | omega | (simp; omega) | (rw [IntKind.wrap_i64]; omega) | (intro hx; omega) | rfl)
                  simp only [Act.put, List.setIfInBounds_toArray, List.set_cons_zero, List.set_cons_succ]
                  refine qw_run (v := .int .i64 (m0 : Int)) (by rfl) ?_ ?_
                  · (intro w9 hC; clear hC; go_simp; first | done | (simp; done) | (simp [*]; done) | omega | (simp; omega) | (rw [IntKind.wrap_i64]; omega) | (intro hx; omega) | rfl)
                  simp only [Act.put, List.setIfInBounds_toArray, List.set_cons_zero, List.set_cons_succ]
                  refine qw_run (v := .pointer (some ⟨g, m0 * 4, none⟩)) (by rfl) ?_ ?_
                  · (intro w9 hC; clear hC; go_simp; first | done | (simp; done) | (simp [*]; done) | omega | (simp; omega) | (rw [IntKind.wrap_i64]; omega) | (intro hx; omega) | rfl)
                  simp only [Act.put, List.setIfInBounds_toArray, List.set_cons_zero, List.set_cons_succ]
                  refine qw_run (v := .pointer (some ⟨g, m0 * 4 + 3, none⟩)) (by rfl) ?_ ?_
                  · (intro w9 hC; clear hC; go_simp; first | done | (simp; done) | (simp [*]; done) | omega | (simp; omega) | (rw [IntKind.wrap_i64]; omega) | (intro hx; omega) | rfl)
                  simp only [Act.put, List.setIfInBounds_toArray, List.set_cons_zero, List.set_cons_succ]
                  refine qw_run (v := .int .i64 qn) (by rfl) ?_ ?_
                  · (intro w9 hC; obtain ⟨c0, c1, c2, c3⟩ := HLa.out _ hC.t.o; dsimp only at c2 c3; clear hC; go_simp; first | done | (simp; done) | (simp [*]; done) | omega | (simp; omega) | (rw [IntKind.wrap_i64]; omega) | (intro hx; omega) | rfl)
                  simp only [Act.put, List.setIfInBounds_toArray, List.set_cons_zero, List.set_cons_succ]
                  refine qw_run (v := .pointer (some ⟨wr.heap.size, 3, none⟩)) (by rfl) ?_ ?_
                  · (intro w9 hC; clear hC; go_simp; first | done | (simp; done) | (simp [*]; done) | omega | (simp; omega) | (rw [IntKind.wrap_i64]; omega) | (intro hx; omega) | rfl)
                  simp only [Act.put, List.setIfInBounds_toArray, List.set_cons_zero, List.set_cons_succ]
                  refine qw_run (v := .int .i64 qn) (by rfl) ?_ ?_
                  · (intro w9 hC; have c2 := at_16 hC.r 2 _ rfl; have c3 := at_16 hC.r 3 _ rfl; dsimp only at c2 c3; clear hC; go_simp; first | done | (simp; done) | (simp [*]; done) | omega | (simp; omega) | (rw [IntKind.wrap_i64]; omega) | (intro hx; omega) | rfl)
                  simp only [Act.put, List.setIfInBounds_toArray, List.set_cons_zero, List.set_cons_succ]
                  refine qw_run (v := .bool true) (by rfl) ?_ ?_
                  · (intro w9 hC; clear hC; go_simp; first | done | (simp; done) | (simp [*]; done) | omega | (simp; omega) | (rw [IntKind.wrap_i64]; omega) | (intro hx; omega) | rfl)
                  simp only [Act.put, List.setIfInBounds_toArray, List.set_cons_zero, List.set_cons_succ]
                  refine qw_run (v := .bool true) (by rfl) ?_ ?_
                  · (intro w9 hC; clear hC; go_simp; first | done | (simp; done) | (simp [*]; done) | omega | (simp; omega) | (rw [IntKind.wrap_i64]; omega) | (intro hx; omega) | rfl)
                  simp only [Act.put, List.setIfInBounds_toArray, List.set_cons_zero, List.set_cons_succ]
                  refine qw_nil ?_
                  (try simp only [putAll, Act.put, List.setIfInBounds_toArray, List.set_cons_zero, List.set_cons_succ])
                  intro Y hY
                  have HY := hid13 hY
                  clear hY me mw mlt m00 m01 m02 HLa HSx
                  go_wp2
                  go_roundg (gk - 1)
                  case measure => have := HJ2.out; omega
                  case rel => exact ⟨k + 1, _, RS0 ++ [⟨qf, true, qn⟩], by have := HJ2.out; omega, rfl, hid13 ⟨HY.out.t, by rw [← HF.out, HD.out, HF0.out, HMg.out], by rw [HM.out]; have := HM2.out; omega⟩⟩
                · have hqf : (qn == pm) = false := by simpa using hqn
                  have HMg : Hid (mgR (RS0 ++ [⟨qf, true, qn⟩]) ⟨rf, true, pm⟩ = RS0 ++ [⟨qf, true, qn⟩] ++ [⟨rf, true, pm⟩]) := hid13 (by rw [mgR_app]; unfold smR; simp [hqn])
                  clear hqn
                  go_wp2_with fail
                  refine qw_region (C := (fun X => NbS X0 db (.slice (some ⟨g, 0, none⟩) (m0 + 1) vc) (RS0 ++ [⟨qf, true, qn⟩]) wr.heap.size ⟨rf, true, pm⟩ X)) (by kernel_rfl) (by kernel_rfl) (HSx.out.below (Below.refl _ _).drew) ?_
                  refine qw_run (v := .pointer (some ⟨X0.heap.size, 1, none⟩)) (by rfl) ?_ ?_
                  · (intro w9 hC; clear hC; go_simp; first | done | (simp; done) | (simp [*]; done) | omega | (simp; omega) | (rw [IntKind.wrap_i64]; omega) | (intro hx; omega) | rfl)
                  simp only [Act.put, List.setIfInBounds_toArray, List.set_cons_zero, List.set_cons_succ]
                  refine qw_run (v := .slice (some ⟨g, 0, none⟩) (m0 + 1) vc) (by rfl) ?_ ?_
                  · (intro w9 hC; have z1 := at_16 hC.t.n 1 _ rfl; clear hC; go_simp; first | done | (simp; done) | (simp [*]; done) | omega | (simp; omega) | (rw [IntKind.wrap_i64]; omega) | (intro hx; omega) | rfl)
                  simp only [Act.put, List.setIfInBounds_toArray, List.set_cons_zero, List.set_cons_succ]
                  refine qw_run (v := .int .i64 ((m0 + 1 : Nat) : Int)) (by rfl) ?_ ?_
                  · (intro w9 hC; clear hC; go_simp; first | done | (simp; done) | (simp [*]; done) | omega | (simp; omega) | (rw [IntKind.wrap_i64]; omega) | (intro hx; omega) | rfl)
                  simp only [Act.put, List.setIfInBounds_toArray, List.set_cons_zero, List.set_cons_succ]
                  refine qw_run (v := .bool true) (by rfl) ?_ ?_
                  · (intro w9 hC; clear hC; go_simp; first | done | (simp; done) | (simp [*]; done) | omega | (simp; omega) | (rw [IntKind.wrap_i64]; omega) | (intro hx; omega) | rfl)
                  simp only [Act.put, List.setIfInBounds_toArray, List.set_cons_zero, List.set_cons_succ]
                  refine qw_run (v := .bool true) (by rfl) ?_ ?_
                  · (intro w9 hC; clear hC; go_simp; first | done | (simp; done) | (simp [*]; done) | omega | (simp; omega) | (rw [IntKind.wrap_i64]; omega) | (intro hx; omega) | rfl)
                  simp only [Act.put, List.setIfInBounds_toArray, List.set_cons_zero, List.set_cons_succ]
                  refine qw_run (v := .pointer (some ⟨X0.heap.size, 1, none⟩)) (by rfl) ?_ ?_
                  · (intro w9 hC; clear hC; go_simp; first | done | (simp; done) | (simp [*]; done) | omega | (simp; omega) | (rw [IntKind.wrap_i64]; omega) | (intro hx; omega) | rfl)
                  simp only [Act.put, List.setIfInBounds_toArray, List.set_cons_zero, List.set_cons_succ]
                  refine qw_run (v := .slice (some ⟨g, 0, none⟩) (m0 + 1) vc) (by rfl) ?_ ?_
                  · (intro w9 hC; have z1 := at_16 hC.t.n 1 _ rfl; clear hC; go_simp; first | done | (simp; done) | (simp [*]; done) | omega | (simp; omega) | (rw [IntKind.wrap_i64]; omega) | (intro hx; omega) | rfl)
                  simp only [Act.put, List.setIfInBounds_toArray, List.set_cons_zero, List.set_cons_succ]
                  refine qw_run (v := .pointer (some ⟨X0.heap.size, 1, none⟩)) (by rfl) ?_ ?_
                  · (intro w9 hC; clear hC; go_simp; first | done | (simp; done) | (simp [*]; done) | omega | (simp; omega) | (rw [IntKind.wrap_i64]; omega) | (intro hx; omega) | rfl)
                  simp only [Act.put, List.setIfInBounds_toArray, List.set_cons_zero, List.set_cons_succ]
                  refine qw_run (v := .slice (some ⟨g, 0, none⟩) (m0 + 1) vc) (by rfl) ?_ ?_
                  · (intro w9 hC; have z1 := at_16 hC.t.n 1 _ rfl; clear hC; go_simp; first | done | (simp; done) | (simp [*]; done) | omega | (simp; omega) | (rw [IntKind.wrap_i64]; omega) | (intro hx; omega) | rfl)
                  simp only [Act.put, List.setIfInBounds_toArray, List.set_cons_zero, List.set_cons_succ]
                  refine qw_run (v := .int .i64 ((m0 + 1 : Nat) : Int)) (by rfl) ?_ ?_
                  · (intro w9 hC; clear hC; go_simp; first | done | (simp; done) | (simp [*]; done) | omega | (simp; omega) | (rw [IntKind.wrap_i64]; omega) | (intro hx; omega) | rfl)
                  simp only [Act.put, List.setIfInBounds_toArray, List.set_cons_zero, List.set_cons_succ]
                  refine qw_run (v := .int .i64 (m0 : Int)) (by rfl) ?_ ?_
                  · (intro w9 hC; clear hC; go_simp; first | done | (simp; done) | (simp [*]; done) | omega | (simp; omega) | (rw [IntKind.wrap_i64]; omega) | (intro hx; omega) | rfl)
                  simp only [Act.put, List.setIfInBounds_toArray, List.set_cons_zero, List.set_cons_succ]
                  refine qw_run (v := .pointer (some ⟨g, m0 * 4, none⟩)) (by rfl) ?_ ?_
                  · (intro w9 hC; clear hC; go_simp; first | done | (simp; done) | (simp [*]; done) | omega | (simp; omega) | (rw [IntKind.wrap_i64]; omega) | (intro hx; omega) | rfl)
                  simp only [Act.put, List.setIfInBounds_toArray, List.set_cons_zero, List.set_cons_succ]
                  refine qw_run (v := .pointer (some ⟨g, m0 * 4 + 2, none⟩)) (by rfl) ?_ ?_
                  · (intro w9 hC; clear hC; go_simp; first | done | (simp; done) | (simp [*]; done) | omega | (simp; omega) | (rw [IntKind.wrap_i64]; omega) | (intro hx; omega) | rfl)
                  simp only [Act.put, List.setIfInBounds_toArray, List.set_cons_zero, List.set_cons_succ]
                  refine qw_run (v := .bool true) (by rfl) ?_ ?_
                  · (intro w9 hC; obtain ⟨c0, c1, c2, c3⟩ := HLa.out _ hC.t.o; dsimp only at c2 c3; clear hC; go_simp; first | done | (simp; done) | (simp [*]; done) | omega | (simp; omega) | (rw [IntKind.wrap_i64]; omega) | (intro hx; omega) | rfl)
                  simp only [Act.put, List.setIfInBounds_toArray, List.set_cons_zero, List.set_cons_succ]
                  refine qw_run (v := .pointer (some ⟨wr.heap.size, 2, none⟩)) (by rfl) ?_ ?_
                  · (intro w9 hC; clear hC; go_simp; first | done | (simp; done) | (simp [*]; done) | omega | (simp; omega) | (rw [IntKind.wrap_i64]; omega) | (intro hx; omega) | rfl)
                  simp only [Act.put, List.setIfInBounds_toArray, List.set_cons_zero, List.set_cons_succ]
                  refine qw_run (v := .bool true) (by rfl) ?_ ?_
                  · (intro w9 hC; have c2 := at_16 hC.r 2 _ rfl; have c3 := at_16 hC.r 3 _ rfl; dsimp only at c2 c3; clear hC; go_simp; first | done | (simp; done) | (simp [*]; done) | omega | (simp; omega) | (rw [IntKind.wrap_i64]; omega) | (intro hx; omega) | rfl)
                  simp only [Act.put, List.setIfInBounds_toArray, List.set_cons_zero, List.set_cons_succ]
                  refine qw_run (v := .bool true) (by rfl) ?_ ?_
                  · (intro w9 hC; clear hC; go_simp; first | done | (simp; done) | (simp [*]; done) | omega | (simp; omega) | (rw [IntKind.wrap_i64]; omega) | (intro hx; omega) | rfl)
                  simp only [Act.put, List.setIfInBounds_toArray, List.set_cons_zero, List.set_cons_succ]
                  refine qw_run (v := .bool true) (by rfl) ?_ ?_
                  · (intro w9 hC; clear hC; go_simp; first | done | (simp; done) | (simp [*]; done) | omega | (simp; omega) | (rw [IntKind.wrap_i64]; omega) | (intro hx; omega) | rfl)
                  simp only [Act.put, List.setIfInBounds_toArray, List.set_cons_zero, List.set_cons_succ]
                  refine qw_run (v := .bool true) (by rfl) ?_ ?_
                  · (intro w9 hC; clear hC; go_simp; first | done | (simp; done) | (simp [*]; done) | omega | (simp; omega) | (rw [IntKind.wrap_i64]; omega) | (intro hx; omega) | rfl)
                  simp only [Act.put, List.setIfInBounds_toArray, List.set_cons_zero, List.set_cons_succ]
                  refine qw_run (v := .pointer (some ⟨X0.heap.size, 1, none⟩)) (by rfl) ?_ ?_
                  · (intro w9 hC; clear hC; go_simp; first | done | (simp; done) | (simp [*]; done) | omega | (simp; omega) | (rw [IntKind.wrap_i64]; omega) | (intro hx; omega) | rfl)
                  simp only [Act.put, List.setIfInBounds_toArray, List.set_cons_zero, List.set_cons_succ]
                  refine qw_run (v := .slice (some ⟨g, 0, none⟩) (m0 + 1) vc) (by rfl) ?_ ?_
                  · (intro w9 hC; have z1 := at_16 hC.t.n 1 _ rfl; clear hC; go_simp; first | done | (simp; done) | (simp [*]; done) | omega | (simp; omega) | (rw [IntKind.wrap_i64]; omega) | (intro hx; omega) | rfl)
                  simp only [Act.put, List.setIfInBounds_toArray, List.set_cons_zero, List.set_cons_succ]
                  refine qw_run (v := .pointer (some ⟨X0.heap.size, 1, none⟩)) (by rfl) ?_ ?_
                  · (intro w9 hC; clear hC; go_simp; first | done | (simp; done) | (simp [*]; done) | omega | (simp; omega) | (rw [IntKind.wrap_i64]; omega) | (intro hx; omega) | rfl)
                  simp only [Act.put, List.setIfInBounds_toArray, List.set_cons_zero, List.set_cons_succ]
                  refine qw_run (v := .slice (some ⟨g, 0, none⟩) (m0 + 1) vc) (by rfl) ?_ ?_
                  · (intro w9 hC; have z1 := at_16 hC.t.n 1 _ rfl; clear hC; go_simp; first | done | (simp; done) | (simp [*]; done) | omega | (simp; omega) | (rw [IntKind.wrap_i64]; omega) | (intro hx; omega) | rfl)
                  simp only [Act.put, List.setIfInBounds_toArray, List.set_cons_zero, List.set_cons_succ]
                  refine qw_run (v := .int .i64 ((m0 + 1 : Nat) : Int)) (by rfl) ?_ ?_
                  · (intro w9 hC; clear hC; go_simp; first | done | (simp; done) | (simp [*]; done) | omega | (simp; omega) | (rw [IntKind.wrap_i64]; omega) | (intro hx; omega) | rfl)
                  simp only [Act.put, List.setIfInBounds_toArray, List.set_cons_zero, List.set_cons_succ]
                  refine qw_run (v := .int .i64 (m0 : Int)) (by rfl) ?_ ?_
                  · (intro w9 hC; clear hC; go_simp; first | done | (simp; done) | (simp [*]; done) | omega | (simp; omega) | (rw [IntKind.wrap_i64]; omega) | (intro hx; omega) | rfl)
                  simp only [Act.put, List.setIfInBounds_toArray, List.set_cons_zero, List.set_cons_succ]
                  refine qw_run (v := .pointer (some ⟨g, m0 * 4, none⟩)) (by rfl) ?_ ?_
                  · (intro w9 hC; clear hC; go_simp; first | done | (simp; done) | (simp [*]; done) | omega | (simp; omega) | (rw [IntKind.wrap_i64]; omega) | (intro hx; omega) | rfl)
                  simp only [Act.put, List.setIfInBounds_toArray, List.set_cons_zero, List.set_cons_succ]
                  refine qw_run (v := .pointer (some ⟨g, m0 * 4 + 3, none⟩)) (by rfl) ?_ ?_
                  · (intro w9 hC; clear hC; go_simp; first | done | (simp; done) | (simp [*]; done) | omega | (simp; omega) | (rw [IntKind.wrap_i64]; omega) | (intro hx; omega) | rfl)
                  simp only [Act.put, List.setIfInBounds_toArray, List.set_cons_zero, List.set_cons_succ]
                  refine qw_run (v := .int .i64 qn) (by rfl) ?_ ?_
                  · (intro w9 hC; obtain ⟨c0, c1, c2, c3⟩ := HLa.out _ hC.t.o; dsimp only at c2 c3; clear hC; go_simp; first | done | (simp; done) | (simp [*]; done) | omega | (simp; omega) | (rw [IntKind.wrap_i64]; omega) | (intro hx; omega) | rfl)
                  simp only [Act.put, List.setIfInBounds_toArray, List.set_cons_zero, List.set_cons_succ]
                  refine qw_run (v := .pointer (some ⟨wr.heap.size, 3, none⟩)) (by rfl) ?_ ?_
                  · (intro w9 hC; clear hC; go_simp; first | done | (simp; done) | (simp [*]; done) | omega | (simp; omega) | (rw [IntKind.wrap_i64]; omega) | (intro hx; omega) | rfl)
                  simp only [Act.put, List.setIfInBounds_toArray, List.set_cons_zero, List.set_cons_succ]
                  refine qw_run (v := .int .i64 pm) (by rfl) ?_ ?_
                  · (intro w9 hC; have c2 := at_16 hC.r 2 _ rfl; have c3 := at_16 hC.r 3 _ rfl; dsimp only at c2 c3; clear hC; go_simp; first | done | (simp; done) | (simp [*]; done) | omega | (simp; omega) | (rw [IntKind.wrap_i64]; omega) | (intro hx; omega) | rfl)
                  simp only [Act.put, List.setIfInBounds_toArray, List.set_cons_zero, List.set_cons_succ]
                  refine qw_run (v := .bool false) (by rfl) ?_ ?_
                  · (intro w9 hC; clear hC; go_simp; first | done | (simp; done) | (simp [*]; done) | omega | (simp; omega) | (rw [IntKind.wrap_i64]; omega) | (intro hx; omega) | rfl)
                  simp only [Act.put, List.setIfInBounds_toArray, List.set_cons_zero, List.set_cons_succ]
                  refine qw_run (v := .bool false) (by rfl) ?_ ?_
                  · (intro w9 hC; clear hC; go_simp; first | done | (simp; done) | (simp [*]; done) | omega | (simp; omega) | (rw [IntKind.wrap_i64]; omega) | (intro hx; omega) | rfl)
                  simp only [Act.put, List.setIfInBounds_toArray, List.set_cons_zero, List.set_cons_succ]
                  refine qw_nil ?_
                  (try simp only [putAll, Act.put, List.setIfInBounds_toArray, List.set_cons_zero, List.set_cons_succ])
                  intro Y hY
                  have HY := hid13 hY
                  clear hY me mw mlt m00 m01 m02 HLa HSx
                  have Y0 := HY.out
                  have f0 := at_16 Y0.r 0 _ rfl
                  have f1 := at_16 Y0.r 1 _ rfl
                  have f2 := at_16 Y0.r 2 _ rfl
                  have f3 := at_16 Y0.r 3 _ rfl
                  have d6 := at_16 Y0.t.n 1 _ rfl
                  dsimp only at f0 f1 f2 f3
                  clear Y0
                  go_wp2_with (at_builtin; apply stopHere9)
                  refine (show wpList _ _ _ _ _ _ from ?_)
                  clear f0 f1 f2 f3 d6
                  have b3 := bl1 Y (.cells #[.int .u64 (hI rf), .int .u64 (lI rf), .bool true, .int .i64 pm] 54)
                  have hT9 := HY.out.t.below b3
                  have ho := hT9.o
                  rw [HM.out] at ho
                  refine wpList_append_lies _ rfl _ _ 55 rfl (X0.heap.size + 1) 54 i0 (.agg #[.int .u64 0, .int .u64 0, .bool false, .int .i64 0]) 4 32 Try.underlying55 hi hz0 hz1 hz2 rfl (by decide) _ _ _ rfl ho ⟨Y.heap.size, 0, none⟩ 1 1 [.int .u64 (hI rf), .int .u64 (lI rf), .bool true, .int .i64 pm] rfl rfl (newsN18 Y (.int .u64 (hI rf)) (.int .u64 (lI rf)) (.bool true) (.int .i64 pm) 54) (by intro u hu; simp at hu; rcases hu with rfl | rfl | rfl | rfl <;> rfl) (by decide) (by have := HJ2.out; have := HM2.out; unfold maxLen; omega) (by have := HJ2.out; have := HM2.out; omega) (by have h1 := lt_16 hT9.n; omega) _ rfl ?_
                  intro g9 cap9 w9 h1 h2 h3 h4
                  have hrw : rowN ((RS0 ++ [⟨qf, true, qn⟩])) ++ [Value.int .u64 (hI rf), Value.int .u64 (lI rf), Value.bool true, Value.int .i64 pm] = rowN ((RS0 ++ [⟨qf, true, qn⟩]) ++ [⟨rf, true, pm⟩]) := (rowN_app18 ((RS0 ++ [⟨qf, true, qn⟩])) ⟨rf, true, pm⟩).symm
                  rw [hrw] at h1
                  obtain ⟨hp9, y0, yf⟩ := HY.out.t.push HM.out b3 h1 h2
                  have HP9 := hid13 hp9
                  clear hp9 h1 h2 h3 h4 hrw ho hT9 b3
                  go_wp2
                  go_roundg (gk - 1)
                  case measure => have := HJ2.out; omega
                  case rel => exact ⟨k + 1, _, (RS0 ++ [⟨qf, true, qn⟩]) ++ [⟨rf, true, pm⟩], by have := HJ2.out; omega, rfl, hid13 ⟨HP9.out, by rw [← HF.out, HD.out, HF0.out, HMg.out], by rw [List.length_append, HM.out]; have := HM2.out; have h9 : ([⟨rf, true, pm⟩] : List Rn).length = 1 := rfl; rw [h9]; omega⟩⟩
        · have hke : k = dr.length := by omega
          have HRS : Hid (RS = NM) := hid13 (by
            have h9 := HN.out.2.1
            rw [hke, List.drop_length] at h9
            exact h9)
          have HN9 := hid13 HN.out.1
          rw [HRS.out] at HN9
          clear hke hk2 HN mk
          obtain ⟨ro, rcc, hvr⟩ := own_form HN9.out.o
          obtain ⟨ln, hln⟩ : ∃ ln, ln = NM.length := ⟨_, rfl⟩
          rw [← hln] at hvr
          have HLn : Hid (NM.length = ln) := hln.symm
          subst hvr
          have hY := HIo.out.below HN9.out.b
          have y0 := hY.cell HI.out.1
          have yf := fr_16 (j := i) hY.c
          have hY1 := hY.putC i (i : Int)
          have hcC : wr.heap[w.heap.size]? = some (.cells (C.map cI).toArray 3) := hY.c
          have hXs : w.heap.size + 1 < X0.heap.size := by
            obtain ⟨cs, h9⟩ := own_typed18 HIo.out.n.o (w.heap.size + 1) rfl
            exact lt_16 h9
          have hb1 : ((wr.setCell ⟨w.heap.size, i, none⟩ (.int .i64 (i : Int)))).heap[X0.heap.size]? = some (.cells #[.int .i64 db, .slice ro ln rcc] 57) := (far_16 (by omega)).trans HN9.out.n
          have ho9 := HN9.out.o
          have hnw : (Value.slice ro ln rcc).ownBlock ≠ some w.heap.size := fun q => by have := own_ge16 ho9 q; omega
          have ho1 : (wr.setCell ⟨w.heap.size, i, none⟩ (.int .i64 (i : Int))).ownsRow w.heap.size 54 4 (.slice ro ln rcc) NM.length (rowN NM) := own_far16 (own_base16 ho9 (by omega)) _ hnw
          have hnw1 : (Value.slice ro ln rcc).ownBlock ≠ some (w.heap.size + 1) := fun q => by have := own_ge16 ho9 q; omega
          have hY2 := hY1.putN (k := i) HI.out.1 (d := ⟨db, NM⟩) (u := .slice ro ln rcc) ho1 (fun j x hx _ z hz hz2 => by
            have h7 : j < ND.length := by have := HIo.out.n.l; have := (List.getElem?_eq_some_iff.mp hx).1; omega
            obtain ⟨c9, hc9⟩ := own_typed18 (HIo.out.n.r j _ x (List.getElem?_eq_getElem h7) hx) z hz
            have := own_ge16 ho9 hz2
            have := lt_16 hc9
            omega)
          have hko := hY1.n.o
          rw [hY1.nl] at hko
          have hrl : (rowD ND V).length = L.length * 2 := hko.1
          obtain ⟨g7, hg7⟩ : ∃ g7, (rowD ND V)[i * 2]? = some g7 := ⟨_, List.getElem?_eq_getElem (by have := HI.out.1; omega)⟩
          obtain ⟨f7, hf7⟩ : ∃ f7, (rowD ND V)[i * 2 + 1]? = some f7 := ⟨_, List.getElem?_eq_getElem (by have := HI.out.1; omega)⟩
          obtain ⟨a0, a1⟩ := own_at18 hko hg7
          obtain ⟨a4, a5⟩ := own_at18 hko hf7
          obtain ⟨a2, a3⟩ := own_at18 (own_put18 hko (.int .i64 db) (j := i * 2) (by have := HI.out.1; omega)) (j := i * 2 + 1) (u := f7) (by rw [List.getElem?_set_ne (by omega)]; exact hf7)
          have b0 := at_16 hb1 0 _ rfl
          have b1 := at_16 hb1 1 _ rfl
          have HZ : Hid (∀ Z, Z = ((wr.setCell ⟨w.heap.size, i, none⟩ (.int .i64 (i : Int))).setCell ⟨w.heap.size + 1, i * 2, none⟩ (.int .i64 db)).setCell ⟨w.heap.size + 1, i * 2 + 1, none⟩ (.slice ro ln rcc) → CsV w (V.set i (.slice ro ln rcc)) (C.set i (i : Int)) (ND.set i ⟨db, NM⟩) L.length Z ∧ Z.heap[X0.heap.size]? = some (.cells #[.int .i64 db, .slice ro ln rcc] 57) ∧ RwN Z (.slice ro ln rcc) NM) := hid13 (by
            rintro Z rfl
            refine ⟨hY2, (far_16 (by omega)).trans ((far_16 (by omega)).trans hb1), own_rwn16 (own_far16 (own_far16 ho1 _ hnw1) _ hnw1)⟩)
          clear hY hY1 hcC hXs hb1 ho9 hnw ho1 hnw1 hY2 hko hrl hg7 hf7 HN9 hln
          go_wp2_with fail
          revert HZ
          generalize ((wr.setCell ⟨w.heap.size, i, none⟩ (.int .i64 (i : Int))).setCell ⟨w.heap.size + 1, i * 2, none⟩ (.int .i64 db)).setCell ⟨w.heap.size + 1, i * 2 + 1, none⟩ (.slice ro ln rcc) = Z
          intro HZ
          obtain ⟨hZc, hZn, hZr⟩ := HZ.out Z rfl
          have HZc := hid13 hZc
          have HZn := hid13 hZn
          have HZr := hid13 hZr
          clear hZc hZn hZr HZ a0 a1 a2 a3 a4 a5 b0 b1 y0 yf
          go_loopg [10] L.length (fun g iv wr => ∃ (x : Int), x + 1 = (g : Int) ∧ iv = .int .i64 x ∧ (i : Int) ≤ x ∧ x < (L.length : Int) ∧ Hid (Below Z.heap.size Z wr ∧ fdK (C.set i (i : Int)) (ND.set i ⟨db, NM⟩) ⟨db, NM⟩ i g = FI))
          case atStart => exact ⟨(L.length : Int) - 1, by omega, rfl, by have := HI.out.1; omega, by omega, hid13 ⟨Below.refl _ _, HFI.out⟩⟩
          case round =>
            obtain ⟨x, hxg, rfl, hxi, hxL, HB⟩ := hrel
            obtain ⟨k2, rfl⟩ : ∃ k2 : Nat, x = (k2 : Int) := ⟨x.toNat, by omega⟩
            have hgk : gk = k2 + 1 := by omega
            subst hgk
            have mk2 : IntKind.i64.wrap ((k2 : Int) - 1) = (k2 : Int) - 1 := by rw [IntKind.wrap_i64]; omega
            by_cases hik : (i : Int) < (k2 : Int)
            · have HF2 : Hid ((if ((C.set i (i : Int)).getD k2 0 == (k2 : Int)) && sqD ((ND.set i ⟨db, NM⟩).getD k2 ⟨0, []⟩) ⟨db, NM⟩ then (k2 : Int) else fdK (C.set i (i : Int)) (ND.set i ⟨db, NM⟩) ⟨db, NM⟩ i k2) = FI) := hid13 (by
                have h9 := HB.out.2
                unfold fdK at h9
                rwa [if_pos (by omega)] at h9)
              have hB := HZc.out.below HB.out.1
              have y0 := hB.cell (k := k2) (by omega)
              have HBb := hid13 HB.out.1
              obtain ⟨ck, hck⟩ : ∃ ck, ck = (C.set i (i : Int)).getD k2 0 := ⟨_, rfl⟩
              rw [← hck] at y0 HF2
              by_cases hcc : ck = (k2 : Int)
              · subst hcc
                obtain ⟨⟨db2, dr2⟩, hd2⟩ : ∃ d, (ND.set i ⟨db, NM⟩)[k2]? = some d := ⟨_, List.getElem?_eq_getElem (by rw [HZc.out.nl]; omega)⟩
                have hgd2 : (ND.set i ⟨db, NM⟩).getD k2 ⟨0, []⟩ = ⟨db2, dr2⟩ := by rw [List.getD_eq_getElem?_getD, hd2]; rfl
                obtain ⟨ao9, c9, e9, -, hr9⟩ := HZc.out.n.rwd
                obtain ⟨b9, off9, e10, hc9⟩ := hr9.resolve_left (by intro e; have := HZc.out.nl; rw [e] at this; simp at this; omega)
                rw [e10] at e9
                injection e9 with e91 e92 e93
                injection e91 with e91
                injection e91 with e94 e95
                subst e94 e95
                obtain ⟨vk, u0, u1, hRk⟩ := hc9 k2 _ hd2
                obtain ⟨ka, kc, hvk, -⟩ := id hRk
                subst hvk
                dsimp only at u0 u1 hRk
                rw [Nat.zero_add] at u0 u1
                have hsm : dr2.length ≤ 9223372036854775807 := by
                  obtain ⟨vj, hvj⟩ : ∃ vj, (V.set i (.slice ro ln rcc))[k2]? = some vj := ⟨_, List.getElem?_eq_getElem (by rw [HZc.out.n.l, HZc.out.nl]; omega)⟩
                  exact own_small12 (HZc.out.n.r k2 _ vj hd2 hvj)
                obtain ⟨t, ht⟩ : ∃ t, t = sqD ⟨db2, dr2⟩ ⟨db, NM⟩ := ⟨_, rfl⟩
                have KS := fun X (h : Below Z.heap.size Z X) => rsame12 db2 db (.slice ka dr2.length kc) (.slice ro ln rcc) dr2 NM X (hRk.below h) (HZr.out.below h) hsm
                rw [← ht] at KS
                rw [hgd2, ← ht] at HF2
                have HF3 : Hid ((if t then (k2 : Int) else fdK (C.set i (i : Int)) (ND.set i ⟨db, NM⟩) ⟨db, NM⟩ i k2) = FI) := hid13 (by have := HF2.out; simpa using this)
                have n0 := at_16 HZn.out 0 _ rfl
                have n1 := at_16 HZn.out 1 _ rfl
                have y0 : Z.cell? ⟨w.heap.size, k2, none⟩ = some (.int .i64 (k2 : Int)) := by have := HZc.out.cell (k := k2) (by omega); rwa [← hck] at this
                have hk2L : (k2 : Int) < (L.length : Int) := by omega
                clear HF2 hB HB hck hxg hd2 hgd2 e10 hr9 hc9 hRk ht e92 e93 hsm
                go_wp2_with fail
                refine qw_region (C := (fun X => Below Z.heap.size Z X)) (by kernel_rfl) (by kernel_rfl) (HBb.out.trans ((Below.refl wr.heap.size wr).drew.mono HBb.out.size)) ?_
                refine qw_run (v := .slice (some ⟨w.heap.size, 0, none⟩) L.length L.length) (by rfl) ?_ ?_
                · (intro w9 hC; clear hC; go_simp; first | done | (simp; done) | (simp [*]; done) | omega | (simp; omega) | (rw [IntKind.wrap_i64]; omega) | (intro hx; omega) | rfl)
                simp only [Act.put, List.setIfInBounds_toArray, List.set_cons_zero, List.set_cons_succ]
                refine qw_run (v := .int .i64 (k2 : Int)) (by rfl) ?_ ?_
                · (intro w9 hC; clear hC; go_simp; first | done | (simp; done) | (simp [*]; done) | omega | (simp; omega) | (rw [IntKind.wrap_i64]; omega) | (intro hx; omega) | rfl)
                simp only [Act.put, List.setIfInBounds_toArray, List.set_cons_zero, List.set_cons_succ]
                refine qw_run (v := .pointer (some ⟨w.heap.size, k2, none⟩)) (by rfl) ?_ ?_
                · (intro w9 hC; clear hC; go_simp; first | done | (simp; done) | (simp [*]; done) | omega | (simp; omega) | (rw [IntKind.wrap_i64]; omega) | (intro hx; omega) | rfl)
                simp only [Act.put, List.setIfInBounds_toArray, List.set_cons_zero, List.set_cons_succ]
                refine qw_run (v := .int .i64 (k2 : Int)) (by rfl) ?_ ?_
                · (intro w9 hC; have z0 := keepc hC y0; clear hC; go_simp; first | done | (simp; done) | (simp [*]; done) | omega | (simp; omega) | (rw [IntKind.wrap_i64]; omega) | (intro hx; omega) | rfl)
                simp only [Act.put, List.setIfInBounds_toArray, List.set_cons_zero, List.set_cons_succ]
                refine qw_run (v := .int .i64 (k2 : Int)) (by rfl) ?_ ?_
                · (intro w9 hC; clear hC; go_simp; first | done | (simp; done) | (simp [*]; done) | omega | (simp; omega) | (rw [IntKind.wrap_i64]; omega) | (intro hx; omega) | rfl)
                simp only [Act.put, List.setIfInBounds_toArray, List.set_cons_zero, List.set_cons_succ]
                refine qw_run (v := .bool true) (by rfl) ?_ ?_
                · (intro w9 hC; clear hC; go_simp; first | done | (simp; done) | (simp [*]; done) | omega | (simp; omega) | (rw [IntKind.wrap_i64]; omega) | (intro hx; omega) | rfl)
                simp only [Act.put, List.setIfInBounds_toArray, List.set_cons_zero, List.set_cons_succ]
                refine qw_run (v := .bool true) (by rfl) ?_ ?_
                · (intro w9 hC; clear hC; go_simp; first | done | (simp; done) | (simp [*]; done) | omega | (simp; omega) | (rw [IntKind.wrap_i64]; omega) | (intro hx; omega) | rfl)
                simp only [Act.put, List.setIfInBounds_toArray, List.set_cons_zero, List.set_cons_succ]
                refine qw_run (v := .slice (some ⟨w.heap.size + 1, 0, none⟩) L.length L.length) (by rfl) ?_ ?_
                · (intro w9 hC; clear hC; go_simp; first | done | (simp; done) | (simp [*]; done) | omega | (simp; omega) | (rw [IntKind.wrap_i64]; omega) | (intro hx; omega) | rfl)
                simp only [Act.put, List.setIfInBounds_toArray, List.set_cons_zero, List.set_cons_succ]
                refine qw_run (v := .int .i64 (k2 : Int)) (by rfl) ?_ ?_
                · (intro w9 hC; clear hC; go_simp; first | done | (simp; done) | (simp [*]; done) | omega | (simp; omega) | (rw [IntKind.wrap_i64]; omega) | (intro hx; omega) | rfl)
                simp only [Act.put, List.setIfInBounds_toArray, List.set_cons_zero, List.set_cons_succ]
                refine qw_run (v := .pointer (some ⟨w.heap.size + 1, k2 * 2, none⟩)) (by rfl) ?_ ?_
                · (intro w9 hC; clear hC; go_simp; first | done | (simp; done) | (simp [*]; done) | omega | (simp; omega) | (rw [IntKind.wrap_i64]; omega) | (intro hx; omega) | rfl)
                simp only [Act.put, List.setIfInBounds_toArray, List.set_cons_zero, List.set_cons_succ]
                refine qw_run (v := .agg #[.int .i64 db2, .slice ka dr2.length kc]) (by rfl) ?_ ?_
                · (intro w9 hC; have z0 := keepc hC u0; have z1 := keepc hC u1; clear hC; go_simp; first | done | (simp; done) | (simp [*]; done) | omega | (simp; omega) | (rw [IntKind.wrap_i64]; omega) | (intro hx; omega) | rfl)
                simp only [Act.put, List.setIfInBounds_toArray, List.set_cons_zero, List.set_cons_succ]
                refine qw_run (v := .agg #[.int .i64 db, .slice ro ln rcc]) (by rfl) ?_ ?_
                · (intro w9 hC; have z0 := keepc hC n0; have z1 := keepc hC n1; clear hC; go_simp; first | done | (simp; done) | (simp [*]; done) | omega | (simp; omega) | (rw [IntKind.wrap_i64]; omega) | (intro hx; omega) | rfl)
                simp only [Act.put, List.setIfInBounds_toArray, List.set_cons_zero, List.set_cons_succ]
                refine qw_call (v := .bool t) (f := 49) (args := #[.agg #[.int .i64 db2, .slice ka dr2.length kc], .agg #[.int .i64 db, .slice ro ln rcc]]) (by rfl) ?_ ?_ ?_
                · (intro w9 hC; clear hC; go_simp; first | done | (simp; done) | rfl)
                · exact fun w9 hC => (KS w9 hC).mono fun e w' ⟨he, hb⟩ => ⟨he, hC.trans (hb.mono hC.size)⟩
                simp only [Act.put, List.setIfInBounds_toArray, List.set_cons_zero, List.set_cons_succ]
                refine qw_run (v := .bool t) (by rfl) ?_ ?_
                · (intro w9 hC; clear hC; go_simp; first | done | (simp; done) | (simp [*]; done) | rfl)
                simp only [Act.put, List.setIfInBounds_toArray, List.set_cons_zero, List.set_cons_succ]
                refine qw_nil ?_
                (try simp only [putAll, Act.put, List.setIfInBounds_toArray, List.set_cons_zero, List.set_cons_succ])
                intro Y hY
                have HYb := hid13 hY
                clear KS hY u0 u1 n0 n1 y0
                cases t with
                | false =>
                  have HF4 : Hid (fdK (C.set i (i : Int)) (ND.set i ⟨db, NM⟩) ⟨db, NM⟩ i k2 = FI) := HF3
                  clear HF3
                  go_wp2
                  go_roundg k2
                  case measure => omega
                  case rel => exact ⟨(k2 : Int) - 1, by omega, rfl, by omega, by omega, hid13 ⟨HYb.out, HF4.out⟩⟩
                | true =>
                  have HF4 : Hid ((k2 : Int) = FI) := HF3
                  have hC9 := HZc.out.below HYb.out
                  have w0 := hC9.cell (k := i) HI.out.1
                  have wf := fr_16 (j := i) hC9.c
                  have HS9 := hid13 (hC9.putC i (k2 : Int))
                  have HE9 : Hid (clsD L i ((C.set i (i : Int)).set i (k2 : Int), ND.set i ⟨db, NM⟩) = R) := hid13 (by rw [HF4.out]; exact HT.out)
                  clear HF3 hC9
                  go_wp2
                  go_roundg i
                  case measure => omega
                  case rel => exact ⟨(i : Int) - 1, _, _, _, by omega, rfl, by have := HI.out.1; omega, hid13 ⟨HS9.out, HE9.out⟩⟩
              · have hcf : (ck == (k2 : Int)) = false := by simpa using hcc
                rw [hcf] at HF2
                have HF3 : Hid (fdK (C.set i (i : Int)) (ND.set i ⟨db, NM⟩) ⟨db, NM⟩ i k2 = FI) := hid13 (by have := HF2.out; simpa using this)
                have HB9 : Hid (∀ n, Below Z.heap.size Z (wr.drewN n)) := hid13 (fun n => below_drewN HBb.out n)
                clear HF2 hB HB hck hcc hxg
                go_wp2_with fail
                go_quiet (fail)
                go_wp2
                go_roundg k2
                case measure => omega
                case rel => exact ⟨(k2 : Int) - 1, by omega, rfl, by omega, by omega, hid13 ⟨HB9.out _, HF3.out⟩⟩
            · have hie : i = k2 := by omega
              have HFe : Hid ((i : Int) = FI) := hid13 (by
                have h9 := HB.out.2
                unfold fdK at h9
                rwa [if_neg (by omega)] at h9)
              have HS9 := hid13 (HZc.out.below HB.out.1)
              have HE9 : Hid (clsD L i (C.set i (i : Int), ND.set i ⟨db, NM⟩) = R) := hid13 (by
                have h9 := HT.out
                rw [← HFe.out, List.set_set] at h9
                exact h9)
              clear hie HB hxg
              go_wp2
              go_roundg i
              case measure => omega
              case rel => exact ⟨(i : Int) - 1, _, _, _, by omega, rfl, by have := HI.out.1; omega, hid13 ⟨HS9.out, HE9.out⟩⟩
    · have hg0 : gk = 0 := by omega
      have HSR : Hid (CsV w V R.1 R.2 L.length wr) := hid13 (by
        have h9 := HS.out.2
        rw [hg0] at h9
        have h8 : (C, ND) = R := h9
        rw [← h8]
        exact HS.out.1)
      clear HS hg0 hx hgl
      go_wp2
      exact bodyPost_ret (v := .tuple #[.slice (some ⟨w.heap.size, 0, none⟩) L.length L.length, .slice (some ⟨w.heap.size + 1, 0, none⟩) L.length L.length]) (by simp [results, Try.results26, go_sem]) rfl ⟨rfl, V, HSR.out⟩
end Go.Proofs.Ytdpfdlkaickkiaa
