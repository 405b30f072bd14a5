/-
  Part 21 of the proof: 1 texts, one behind the other.
-/
import Derived.Test.YtdpfdlkaickkiaaPart12
import Derived.Test.YtdpfdlkaickkiaaPart20
namespace Go.Proofs.Ytdpfdlkaickkiaa
open Go.RowKit Go.Shelf
set_option linter.unusedSimpArgs false
set_option linter.unusedVariables false
attribute [local go_sem] Oper.semAt_some

def plcG : List Int → Nat → List Int → List Int
  | [], _, P => P
  | x :: t, i, P => plcG t (i + 1) (P.set x.toNat (i : Int))
theorem plc_drop (o : List Int) (i : Nat) (x : Int) (h : o[i]? = some x) (P : List Int) : plcG (o.drop i) i P = plcG (o.drop (i + 1)) (i + 1) (P.set x.toNat (i : Int)) := by
  rw [List.drop_eq_getElem_cons (List.getElem?_eq_some_iff.mp h).1, (List.getElem?_eq_some_iff.mp h).2]; rfl
theorem plcG_len : ∀ (o : List Int) (i : Nat) (P : List Int), (plcG o i P).length = P.length
  | [], _, _ => rfl
  | x :: t, i, P => by show (plcG t (i + 1) (P.set x.toNat (i : Int))).length = _; rw [plcG_len, List.length_set]
def rnP (P : List Int) (r : Rn) : Rn := ⟨r.f, r.k, if r.k then P.getD r.n.toNat 0 else r.n⟩
def nbL (L : List Nde) (P o : List Int) : List Nde := o.map fun x => ⟨(L.getD x.toNat ⟨0, []⟩).b, (L.getD x.toNat ⟨0, []⟩).r.map (rnP P)⟩
theorem nbL_take (L : List Nde) (P o : List Int) (k : Nat) (x : Int) (h : o[k]? = some x) : (nbL L P o).take (k + 1) = (nbL L P o).take k ++ [⟨(L.getD x.toNat ⟨0, []⟩).b, (L.getD x.toNat ⟨0, []⟩).r.map (rnP P)⟩] := by
  rw [List.take_add_one]
  unfold nbL
  rw [List.getElem?_map, h]; rfl
structure PcV (w : World) (P : List Int) (W : World) : Prop where
  g : W.heap[w.heap.size]? = some (.cells (P.map cI).toArray 3)
  b : Below w.heap.size w W
theorem PcV.below {w W W' : World} {P : List Int} (h : PcV w P W) (hb : Below W.heap.size W W') : PcV w P W' := ⟨(hb.block _ (lt_16 h.g)).trans h.g, keepb hb h.b⟩
theorem PcV.put {w W : World} {P : List Int} (h : PcV w P W) (k : Nat) (m : Int) : PcV w (P.set k m) (W.setCell ⟨w.heap.size, k, none⟩ (.int .i64 m)) :=
  ⟨by rw [set_16 h.g, List.setIfInBounds_toArray, List.map_set]; rfl, h.b.setCell (p := ⟨w.heap.size, k, none⟩) (Nat.le_refl _) _⟩
theorem PcV.cell {w W : World} {P : List Int} (h : PcV w P W) {k : Nat} (hk : k < P.length) : W.cell? ⟨w.heap.size, k, none⟩ = some (.int .i64 (P.getD k 0)) :=
  at_16 h.g k _ (by rw [List.getElem?_toArray, List.getElem?_map, List.getElem?_eq_getElem hk, List.getD_eq_getElem?_getD, List.getElem?_eq_getElem hk]; rfl)
structure NbS (X0 : World) (bt : Int) (vr : Value) (RS : List Rn) (RB : Nat) (r : Rn) (W : World) : Prop where
  t : TnV X0 bt vr RS W
  r : W.heap[RB]? = some (.cells #[.int .u64 (hI r.f), .int .u64 (lI r.f), .bool r.k, .int .i64 r.n] 54)
  l : X0.heap.size < RB
  n : vr.ownBlock ≠ some RB
theorem NbS.num {X0 W : World} {bt : Int} {vr : Value} {RS : List Rn} {RB : Nat} {r : Rn} (h : NbS X0 bt vr RS RB r W) (m : Int) : NbS X0 bt vr RS RB ⟨r.f, r.k, m⟩ (W.setCell ⟨RB, 3, none⟩ (.int .i64 m)) :=
  ⟨h.t.far h.l h.n _, by rw [set_16 h.r]; rfl, h.l, h.n⟩
theorem NbS.new {X0 wr : World} {bt : Int} {vr : Value} {RS : List Rn} (h : TnV X0 bt vr RS wr) (r : Rn) : NbS X0 bt vr RS wr.heap.size r (wr.alloc (.cells #[.int .u64 (hI r.f), .int .u64 (lI r.f), .bool r.k, .int .i64 r.n] 54)) := by
  refine ⟨h.below (bl1 _ _), new_16 _ _, lt_16 h.n, fun q => ?_⟩
  have := (h.o.lt _ q).2
  omega
set_option maxRecDepth 100000 in
set_option maxHeartbeats 16000000 in
theorem rnumbered12 (v vo : Value) (L : List Nde) (o : List Int) (w : World) (hv : RwD w v L) (ho : RwX cI w vo o) (h0 : 0 < L.length) (hl : L.length ≤ 1000000) (hol : o.length ≤ 1000000) (hr : ∀ d ∈ L, d.r.length ≤ 1000000)
    (hin : ∀ x ∈ o, 0 ≤ x ∧ x < (L.length : Int)) (hkid : ∀ x ∈ o, ∀ r ∈ (L.getD x.toNat ⟨0, []⟩).r, r.k = true → 0 ≤ r.n ∧ r.n < (L.length : Int)) :
    Calls Try.prog 27 #[v, vo] w fun e w' => ∃ v' V, e = .returned v' ∧ NdO w' w.heap.size v' V (nbL L (plcG o 0 (List.replicate L.length 0)) o) ∧ Below w.heap.size w w' := by
  obtain ⟨i0, hi, hz0, hz1, hz2⟩ := info13 Try.infoRn16
  obtain ⟨j0, ji, jz0, jz1, jz2⟩ := info13 Try.infoD16
  obtain ⟨k0, ki, kz0, kz1, kz2⟩ := info13 Try.infoN16
  obtain ⟨ao, c, hvf, -, hrow⟩ := id hv
  obtain ⟨b, off, hao, hcell⟩ := hrow.resolve_left (by rintro rfl; exact absurd h0 (by simp))
  subst hao
  subst hvf
  have HC := hid13 hcell
  obtain ⟨oo, oc, hvo, -, horow⟩ := id ho
  subst hvo
  have HO := hid13 horow
  have HL : Hid (L.length ≤ 1000000 ∧ o.length ≤ 1000000 ∧ (∀ d ∈ L, d.r.length ≤ 1000000) ∧ 0 < L.length) := ⟨hl, hol, hr, h0⟩
  have HIn := hid13 hin
  have HKd := hid13 hkid
  obtain ⟨R, hR⟩ : ∃ R, R = plcG o 0 (List.replicate L.length 0) := ⟨_, rfl⟩
  rw [← hR]
  have HR : Hid (plcG o 0 (List.replicate L.length 0) = R) := hR.symm
  have HRl : Hid (R.length = L.length) := hid13 (by rw [hR, plcG_len]; simp)
  clear hv ho hcell hrow horow hin hkid hr hR
  go_enter Try.func27, Try.ntmps27
  go_wp2_with (at_make; apply stopHere9)
  refine (show wpList _ _ _ _ _ _ from ?_)
  refine wpList_make16 _ rfl _ _ 61 rfl 3 k0 (.int .i64 0) Try.underlying61 ki kz0 .i64 .i64 _ _ L.length L.length rfl rfl rfl rfl (Nat.le_refl _) (by rw [kz2]; omega) (by unfold maxLen; omega) ?_
  have eO : madeCells (Value.int IntKind.i64 0).cells (L.length * k0.size) = ((List.replicate L.length (0 : Int)).map cI).toArray := by rw [kz1, Nat.mul_one, List.map_replicate]; exact made_one16 _ _
  rw [eO]
  clear eO
  obtain ⟨O1, hO1⟩ : ∃ O : Obj, O = .cells ((List.replicate L.length (0 : Int)).map cI).toArray 3 := ⟨_, rfl⟩
  rw [← hO1]
  have HY0 : Hid (PcV w (List.replicate L.length 0) (w.alloc O1)) := hid13 ⟨by rw [hO1]; exact new_16 _ _, bl1 _ _⟩
  clear hO1
  go_wp2_with fail
  revert HY0
  generalize w.alloc O1 = W0
  intro HY0
  go_loopg [6] o.length (fun g iv wr => ∃ (i : Nat) (P : List Int), i + g = o.length ∧ iv = .int .i64 (i : Int) ∧ Hid (PcV w P wr ∧ P.length = L.length ∧ plcG (o.drop i) i P = R))
  case atStart => exact ⟨0, _, by omega, rfl, hid13 ⟨HY0.out, by simp, HR.out⟩⟩
  case round =>
    clear HY0
    obtain ⟨i, P, hk, rfl, HS⟩ := hrel
    have mi : IntKind.i64.wrap ((i : Int) + 1) = ((i + 1 : Nat) : Int) := by rw [IntKind.wrap_i64]; have := HL.out; push_cast; omega
    by_cases hlt : (i : Int) < (o.length : Int)
    · have hli : i < o.length := by omega
      obtain ⟨x, hx⟩ : ∃ x, o[i]? = some x := ⟨o[i], by simp [hli]⟩
      obtain ⟨hx0, hx1⟩ := HIn.out x (List.mem_of_getElem? hx)
      obtain ⟨k, rfl⟩ : ∃ k : Nat, x = (k : Int) := ⟨x.toNat, by omega⟩
      obtain ⟨ob, oof, hob, hoc⟩ := HO.out.resolve_left (by rintro rfl; simp at hli)
      subst hob
      have o0 := keepc HS.out.1.b (hoc i _ hx)
      have HT : Hid (plcG (o.drop (i + 1)) (i + 1) (P.set k (i : Int)) = R) := hid13 (by rw [← HS.out.2.2, plc_drop o i _ hx]; rfl)
      have hPk : k < P.length := by have := HS.out.2.1; omega
      have p2 := HS.out.1.cell hPk
      have p2f := fr_16 (j := k) HS.out.1.g
      have HY4 := hid13 (HS.out.1.put k (i : Int))
      have HPl : Hid ((P.set k (i : Int)).length = L.length) := hid13 (by rw [List.length_set]; exact HS.out.2.1)
      have HJ : Hid (i < o.length ∧ i + gk = o.length) := ⟨hli, hk⟩
      unfold cI at o0
      clear hx hoc hPk HS hk hx0
      go_wp2
      go_roundg (gk - 1)
      case measure => have := HJ.out; omega
      case rel => exact ⟨i + 1, P.set k (i : Int), by have := HJ.out; omega, rfl, hid13 ⟨HY4.out, HPl.out, HT.out⟩⟩
    · have hie : i = o.length := by omega
      have HPR : Hid (P = R) := hid13 (by have := HS.out.2.2; rw [hie, List.drop_of_length_le (by omega)] at this; exact this)
      have HY := hid13 HS.out.1
      rw [HPR.out] at HY
      obtain ⟨w1, hw1⟩ : ∃ w1, w1 = wr := ⟨_, rfl⟩
      have HN0 : Hid (NdO w1 w1.heap.size (.slice none 0 0) [] ((nbL L R o).take 0)) := hid13 (NdO.nil (World.ownsRow_nil _ _ _ _))
      have HB0 := hid13 (Below.refl w1.heap.size w1)
      rw [← hw1] at HY ⊢
      clear HS HPR hie hk hw1 mi
      go_wp2_with fail
      go_loopg [7, 8] o.length (fun gk lv kv wr => ∃ (k : Nat) (V : List Value), k + gk = o.length ∧ kv = .int .i64 (k : Int) ∧ Hid (NdO wr w1.heap.size lv V ((nbL L R o).take k) ∧ Below w1.heap.size w1 wr))
      case atStart => exact ⟨0, [], by omega, rfl, hid13 ⟨HN0.out, HB0.out⟩⟩
      case round =>
        clear HN0 HB0
        obtain ⟨k, V, hk, rfl, HI⟩ := hrel
        have mk : IntKind.i64.wrap ((k : Int) + 1) = ((k + 1 : Nat) : Int) := by rw [IntKind.wrap_i64]; have := HL.out; push_cast; omega
        by_cases hlt : (k : Int) < (o.length : Int)
        · have hkl : k < o.length := by omega
          obtain ⟨x, hx⟩ : ∃ x, o[k]? = some x := ⟨o[k], by simp [hkl]⟩
          have hxm := List.mem_of_getElem? hx
          obtain ⟨hx0, hx1⟩ := HIn.out x hxm
          have hkd := HKd.out x hxm
          have hTk := nbL_take L R o k x hx
          obtain ⟨kx, rfl⟩ : ∃ kx : Nat, x = (kx : Int) := ⟨x.toNat, by omega⟩
          have hxL : kx < L.length := by omega
          obtain ⟨⟨db, dr⟩, hd⟩ : ∃ d, L[kx]? = some d := ⟨L[kx], by simp [hxL]⟩
          have hgd : L.getD ((kx : Nat) : Int).toNat ⟨0, []⟩ = ⟨db, dr⟩ := by rw [Int.toNat_natCast, List.getD_eq_getElem?_getD, hd]; rfl
          rw [hgd] at hkd hTk
          dsimp only at hkd hTk
          have hdr := HL.out.2.2.1 _ (List.mem_of_getElem? hd)
          dsimp only at hdr
          obtain ⟨ob, oof, hob, hoc⟩ := HO.out.resolve_left (by rintro rfl; simp at hkl)
          subst hob
          obtain ⟨vr0, x0, x1, hR0⟩ := HC.out kx _ hd
          dsimp only at x0 hR0
          obtain ⟨ra, rc, hvr0, -, hrr⟩ := id hR0
          subst hvr0
          have HRr0 := hid13 hrr
          have o0 := hoc k _ hx
          unfold cI at o0
          have HCl : Hid (∀ X, Below w.heap.size w X → X.cell? ⟨ob, oof + k, none⟩ = some (.int .i64 (kx : Int)) ∧ X.cell? ⟨b, off + kx * 2, none⟩ = some (.int .i64 db) ∧ X.cell? ⟨b, off + kx * 2 + 1, none⟩ = some (.slice ra dr.length rc)) := hid13 (fun X h => ⟨keepc h o0, keepc h x0, keepc h x1⟩)
          have HKd2 := hid13 hkd
          have HTk := hid13 hTk
          have HDl : Hid (dr.length ≤ 1000000) := hdr
          obtain ⟨GK, hGK⟩ : ∃ GK, GK = gk := ⟨_, rfl⟩
          have HJ : Hid (k + GK = o.length ∧ GK = gk ∧ k < o.length ∧ o.length ≤ 1000000) := ⟨by omega, hGK, by omega, HL.out.2.1⟩
          obtain ⟨X0, hX0⟩ : ∃ X0, X0 = wr := ⟨_, rfl⟩
          have HIo := HI
          rw [← hX0] at HI HIo ⊢
          have q1 := bl1 X0 (.cells #[.int .i64 db, .slice none 0 0] 57)
          have HT0 : Hid (TnV X0 db (.slice none 0 0) ((dr.map (rnP R)).take 0) (X0.alloc (.cells #[.int .i64 db, .slice none 0 0] 57))) := hid13 ⟨q1, new_16 _ _, World.ownsRow_nil _ _ _ _⟩
          have HBX : Hid (Below w.heap.size w X0) := hid13 (keepb HIo.out.2 HY.out.b)
          obtain ⟨c0, c1, c2⟩ := HCl.out _ HBX.out
          have hxL2 : (kx : Int) < (L.length : Int) := by omega
          clear hkl hx hxm hx0 hx1 hkd hTk hxL hd hgd hdr hoc x0 x1 hR0 hrr o0 hGK hk hX0 q1
          go_wp2_with fail
          clear c0 c1 c2
          go_loopg [10] dr.length (fun gk iv wr => ∃ (i : Nat) (vr : Value), i + gk = dr.length ∧ iv = .int .i64 (i : Int) ∧ Hid (TnV X0 db vr ((dr.map (rnP R)).take i) wr))
          case atStart => exact ⟨0, _, by omega, rfl, HT0⟩
          case round =>
            clear HT0
            obtain ⟨i, vr, hi2, rfl, HN⟩ := hrel
            have HBw : Hid (Below w.heap.size w wr) := hid13 (keepb HN.out.b HBX.out)
            obtain ⟨c0, c1, c2⟩ := HCl.out _ HBw.out
            have mi : IntKind.i64.wrap ((i : Int) + 1) = ((i + 1 : Nat) : Int) := by rw [IntKind.wrap_i64]; have := HDl.out; push_cast; omega
            by_cases hlt2 : (i : Int) < (dr.length : Int)
            · have hil : i < dr.length := by omega
              obtain ⟨⟨rf, rk, rn⟩, hr⟩ : ∃ r, dr[i]? = some r := ⟨dr[i], by simp [hil]⟩
              obtain ⟨rb, rof, hra, hrc⟩ := HRr0.out.resolve_left (by rintro rfl; simp at hil)
              subst hra
              obtain ⟨e0, e1, e2, e3⟩ := (hrc i _ hr).below HBw.out
              dsimp only at e0 e1 e2 e3
              have hTr : (dr.map (rnP R)).take (i + 1) = (dr.map (rnP R)).take i ++ [rnP R ⟨rf, rk, rn⟩] := by rw [List.take_add_one, List.getElem?_map, hr]; rfl
              have hLl : ((dr.map (rnP R)).take i).length = i := by rw [List.length_take, List.length_map]; omega
              have hkn := HKd2.out _ (List.mem_of_getElem? hr)
              dsimp only at hkn
              obtain ⟨RS, hRS⟩ : ∃ RS, RS = (dr.map (rnP R)).take i := ⟨_, rfl⟩
              rw [← hRS] at hTr hLl HN
              obtain ⟨ro, rcc, hvr⟩ := own_form HN.out.o
              rw [hLl] at hvr
              subst hvr
              have HLl := hid13 hLl
              have HTr := hid13 hTr
              have HS0 := hid13 (NbS.new HN.out ⟨rf, rk, rn⟩)
              have HJ2 : Hid (i < dr.length ∧ i + gk = dr.length ∧ dr.length ≤ 1000000) := ⟨hil, hi2, HDl.out⟩
              have hne : ¬ X0.heap.size = wr.heap.size := by have := lt_16 HN.out.n; omega
              have hne2 : ¬ wr.heap.size = X0.heap.size := by omega
              have c6 := at_16 HN.out.n 1 _ rfl
              clear hr hrc hTr hLl hRS hil hi2
              cases rk with
              | false =>
                have HRr : Hid ((dr.map (rnP R)).take (i + 1) = RS ++ [⟨rf, false, rn⟩]) := hid13 HTr.out
                have f0 := at_16 HS0.out.r 0 _ rfl
                have f1 := at_16 HS0.out.r 1 _ rfl
                have f2 := at_16 HS0.out.r 2 _ rfl
                have f3 := at_16 HS0.out.r 3 _ rfl
                have d6 := at_16 HS0.out.t.n 1 _ rfl
                dsimp only at f0 f1 f2 f3
                have HSz : Hid ((wr.alloc (.cells #[.int .u64 (hI rf), .int .u64 (lI rf), .bool false, .int .i64 rn] 54)).heap.size = wr.heap.size + 1) := hid13 (World.size_alloc ..)
                clear HTr hkn
                go_wp2_with (at_builtin; apply stopHere9)
                refine (show wpList _ _ _ _ _ _ from ?_)
                clear c0 c1 c2 e0 e1 e2 e3 c6 f0 f1 f2 f3 d6
                obtain ⟨V9, hV9⟩ : ∃ V9, V9 = (wr.alloc (.cells #[.int .u64 (hI rf), .int .u64 (lI rf), .bool false, .int .i64 rn] 54)) := ⟨_, rfl⟩
                have HS9 := HS0
                have sz9 := HSz.out
                rw [← hV9] at HS9 sz9 ⊢
                have b3 := bl1 V9 (.cells #[.int .u64 (hI rf), .int .u64 (lI rf), .bool false, .int .i64 rn] 54)
                have hT9 := HS9.out.t.below b3
                have ho := hT9.o
                rw [HLl.out] at ho
                refine wpList_append_lies _ rfl _ _ 55 rfl (X0.heap.size + 1) 54 i0 (.agg #[.int .u64 0, .int .u64 0, .bool false, .int .i64 0]) 4 32 Try.underlying55 hi hz0 hz1 hz2 rfl (by decide) _ _ _ rfl ho ⟨wr.heap.size + 1, 0, none⟩ 1 1 [.int .u64 (hI rf), .int .u64 (lI rf), .bool false, .int .i64 rn] rfl rfl (by have h9 := newsN18 V9 (.int .u64 (hI rf)) (.int .u64 (lI rf)) (.bool false) (.int .i64 rn) 54; rwa [sz9] at h9) (by intro u hu; simp at hu; rcases hu with rfl | rfl | rfl | rfl <;> rfl) (by decide) (by have := HJ2.out; unfold maxLen; omega) (by have := HJ2.out; omega) (by have h1 := lt_16 hT9.n; omega) _ rfl ?_
                intro g9 cap9 w9 h1 h2 h3 h4
                have hrw : rowN RS ++ [Value.int .u64 (hI rf), Value.int .u64 (lI rf), Value.bool false, Value.int .i64 rn] = rowN (RS ++ [⟨rf, false, rn⟩]) := (rowN_app18 RS ⟨rf, false, rn⟩).symm
                rw [hrw] at h1
                obtain ⟨hp9, y0, yf⟩ := HS9.out.t.push HLl.out b3 h1 h2
                rw [← HRr.out] at hp9
                have HP9 := hid13 hp9
                clear hp9 h1 h2 h3 h4 hrw ho hT9 b3 sz9 HS9 hV9 HS0
                go_wp2
                go_roundg (gk - 1)
                case measure => have := HJ2.out; omega
                case rel => exact ⟨i + 1, _, by have := HJ2.out; omega, rfl, HP9⟩
              | true =>
                obtain ⟨hn0, hn1⟩ := hkn rfl
                obtain ⟨nn, rfl⟩ : ∃ nn : Nat, rn = (nn : Int) := ⟨rn.toNat, by omega⟩
                have hnR : nn < R.length := by rw [HRl.out]; omega
                have p2 := keepc HS0.out.t.b (keepc HIo.out.2 (HY.out.cell hnR))
                obtain ⟨pm, hpm⟩ : ∃ pm, pm = R.getD nn 0 := ⟨_, rfl⟩
                rw [← hpm] at p2
                have HRr : Hid ((dr.map (rnP R)).take (i + 1) = RS ++ [⟨rf, true, pm⟩]) := hid13 (by rw [HTr.out, hpm]; rfl)
                have HS1 := hid13 (NbS.new HN.out ⟨rf, true, pm⟩)
                have f2 := at_16 HS0.out.r 2 _ rfl
                have f3 := at_16 HS0.out.r 3 _ rfl
                have ff3 := fr_16 (j := 3) HS0.out.r
                have g0 := at_16 HS1.out.r 0 _ rfl
                have g1 := at_16 HS1.out.r 1 _ rfl
                have g2 := at_16 HS1.out.r 2 _ rfl
                have g3 := at_16 HS1.out.r 3 _ rfl
                have g6 := at_16 HS1.out.t.n 1 _ rfl
                dsimp only at f2 f3 g0 g1 g2 g3
                have HSz : Hid ((wr.alloc (.cells #[.int .u64 (hI rf), .int .u64 (lI rf), .bool true, .int .i64 pm] 54)).heap.size = wr.heap.size + 1) := hid13 (by simp)
                clear HTr hkn hpm
                go_wp2_with (at_builtin; apply stopHere9)
                refine (show wpList _ _ _ _ _ _ from ?_)
                clear c0 c1 c2 e0 e1 e2 e3 c6 f2 f3 ff3 g0 g1 g2 g3 g6 p2
                obtain ⟨V9, hV9⟩ : ∃ V9, V9 = (wr.alloc (.cells #[.int .u64 (hI rf), .int .u64 (lI rf), .bool true, .int .i64 pm] 54)) := ⟨_, rfl⟩
                have HS9 := HS1
                have sz9 := HSz.out
                rw [← hV9] at HS9 sz9 ⊢
                have b3 := bl1 V9 (.cells #[.int .u64 (hI rf), .int .u64 (lI rf), .bool true, .int .i64 pm] 54)
                have hT9 := HS9.out.t.below b3
                have ho := hT9.o
                rw [HLl.out] at ho
                refine wpList_append_lies _ rfl _ _ 55 rfl (X0.heap.size + 1) 54 i0 (.agg #[.int .u64 0, .int .u64 0, .bool false, .int .i64 0]) 4 32 Try.underlying55 hi hz0 hz1 hz2 rfl (by decide) _ _ _ rfl ho ⟨wr.heap.size + 1, 0, none⟩ 1 1 [.int .u64 (hI rf), .int .u64 (lI rf), .bool true, .int .i64 pm] rfl rfl (by have h9 := newsN18 V9 (.int .u64 (hI rf)) (.int .u64 (lI rf)) (.bool true) (.int .i64 pm) 54; rwa [sz9] at h9) (by intro u hu; simp at hu; rcases hu with rfl | rfl | rfl | rfl <;> rfl) (by decide) (by have := HJ2.out; unfold maxLen; omega) (by have := HJ2.out; omega) (by have h1 := lt_16 hT9.n; omega) _ rfl ?_
                intro g9 cap9 w9 h1 h2 h3 h4
                have hrw : rowN RS ++ [Value.int .u64 (hI rf), Value.int .u64 (lI rf), Value.bool true, Value.int .i64 pm] = rowN (RS ++ [⟨rf, true, pm⟩]) := (rowN_app18 RS ⟨rf, true, pm⟩).symm
                rw [hrw] at h1
                obtain ⟨hp9, y0, yf⟩ := HS9.out.t.push HLl.out b3 h1 h2
                rw [← HRr.out] at hp9
                have HP9 := hid13 hp9
                clear hp9 h1 h2 h3 h4 hrw ho hT9 b3 sz9 HS9 hV9 HS0
                go_wp2
                go_roundg (gk - 1)
                case measure => have := HJ2.out; omega
                case rel => exact ⟨i + 1, _, by have := HJ2.out; omega, rfl, HP9⟩
            · have hie : i = dr.length := by omega
              have HN9 : Hid (TnV X0 db vr (dr.map (rnP R)) wr) := hid13 (by
                have h9 := HN.out
                rw [hie, List.take_of_length_le (by rw [List.length_map]; exact Nat.le_refl _)] at h9
                exact h9)
              obtain ⟨ro, rcc, hvr⟩ := own_form HN9.out.o
              rw [List.length_map] at hvr
              subst hvr
              have HLl : Hid (((nbL L R o).take k).length = k) := hid13 (by rw [List.length_take]; unfold nbL; rw [List.length_map]; have := HJ.out; omega)
              obtain ⟨lo, lc, hlv⟩ := own_form HIo.out.1.o
              rw [HLl.out] at hlv
              subst hlv
              have d0 := at_16 HN9.out.n 0 _ rfl
              have d1 := at_16 HN9.out.n 1 _ rfl
              clear hie hi2 HN
              go_wp2_with (at_builtin; apply stopHere9)
              refine (show wpList _ _ _ _ _ _ from ?_)
              have b3 := bl1 wr (.cells #[.int .i64 db, .slice ro dr.length rcc] 57)
              have hb3 : Below X0.heap.size X0 (wr.alloc (.cells #[.int .i64 db, .slice ro dr.length rcc] 57)) := keepb b3 HN9.out.b
              have ho := own_b13 hb3 HIo.out.1.o
              rw [HLl.out] at ho
              have hws : w1.heap.size ≤ X0.heap.size := HIo.out.2.size
              refine wpList_append_lies _ rfl _ _ 22 rfl w1.heap.size 57 j0 (.agg #[.int .i64 0, .slice none 0 0]) 2 32 Try.underlying22 ji jz0 jz1 jz2 rfl (by decide) _ _ _ rfl ho ⟨wr.heap.size, 0, none⟩ 1 1 [.int .i64 db, .slice ro dr.length rcc] rfl rfl (newsD18 wr _ _ _ _ rfl) (two_one16 _ _ _ _) (by decide) (by have := HJ.out; unfold maxLen; omega) (by have := HJ.out; omega) (by have := hb3.size; omega) _ rfl ?_
              intro g9 cap9 w9 h1 h2 h3 h4
              have hN9 := HIo.out.1.push (u := .slice ro dr.length rcc) (d := ⟨db, dr.map (rnP R)⟩) hws (Below.refl _ _) (own_base16 HN9.out.o (by omega)) HN9.out.b b3 h2 (by rw [HLl.out]; exact h1)
              rw [← HTk.out] at hN9
              have HN8 := hid13 hN9
              have HB9 := hid13 ((keepb hb3 HIo.out.2).grown h2 (keepb hb3 HIo.out.2).size (fun z q => (HIo.out.1.o.lt z q).1))
              clear h1 h2 h3 h4 hN9 ho hb3 b3 hws d0 d1 c0 c1 c2
              go_wp2
              go_roundg (GK - 1)
              case measure => have := HJ.out; omega
              case rel => exact ⟨k + 1, _, by have := HJ.out; omega, rfl, hid13 ⟨HN8.out, HB9.out⟩⟩
        · have hke : k = o.length := by omega
          have HF : Hid (∃ V, NdO wr w.heap.size u7 V (nbL L R o) ∧ Below w.heap.size w wr) := hid13 ⟨V, by
            have h9 := HI.out.1
            rw [hke, List.take_of_length_le (by unfold nbL; rw [List.length_map]; exact Nat.le_refl _)] at h9
            exact h9.base HY.out.b.size, keepb HI.out.2 HY.out.b⟩
          clear hke hk HI
          go_wp2
          obtain ⟨V, h1, h2⟩ := HF.out
          exact bodyPost_ret (v := u7) (by simp [results, Try.results27, go_sem]) rfl ⟨_, rfl, ⟨V, h1⟩, h2⟩
end Go.Proofs.Ytdpfdlkaickkiaa
