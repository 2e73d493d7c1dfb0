/- The kinds of a type's values; what is left open: the program's answers and the document's. -/
import Derived.Test.YthcdbmbimdkcfaaDoorTyLike
import Derived.Laws.Bits128
namespace Go.Proofs.YthcdbmbimdkcfaaDoor
open Go.RowKit ObjM
namespace TyD
open LexD (nameB WTab)

theorem or_nat {a b : Nat} (ha : a < 128) (hb : b < 128) : bits BinOp.or IntKind.i64 (a : Int) (b : Int) = ((a ||| b : Nat) : Int) := by
  have h : bits BinOp.or IntKind.i64 (a : Int) (b : Int) = IntKind.i64.wrap ((BitVec.ofInt 64 (a : Int) ||| BitVec.ofInt 64 (b : Int)).toNat : Nat) := rfl
  have hab : a ||| b < 128 := Nat.or_lt_two_pow (n := 7) ha hb
  rw [h, BitVec.toNat_or, BitVec.toNat_ofInt, BitVec.toNat_ofInt]
  have e1 : (((a : Int) % ((2 ^ 64 : Nat) : Int)).toNat) = a := by omega
  have e2 : (((b : Int) % ((2 ^ 64 : Nat) : Int)).toNat) = b := by omega
  rw [e1, e2, IntKind.wrap_i64]
  omega
theorem kindOf_lt (k : Int) : kindOf k < 128 := by
  unfold kindOf
  repeat' split
  all_goals omega
theorem fold_lt : ∀ (l : List Ty) (m : Nat), m < 128 → l.foldl (fun m a => m ||| kindOf a.kind) m < 128
  | [], m, h => h
  | a :: l, m, h => by
    rw [List.foldl_cons]
    exact fold_lt l _ (Nat.or_lt_two_pow (n := 7) h (kindOf_lt _))
theorem kindsV_lt (t : Ty) : kindsV t < 128 := by
  obtain ⟨k, ns, ts⟩ := t
  rw [kindsV]
  split
  · exact fold_lt ts 0 (by omega)
  · split
    · omega
    · split
      · omega
      · exact kindOf_lt k
theorem kindsC_lt (t : Ty) : kindsC t < 128 := by
  unfold kindsC
  split
  · exact kindsV_lt t
  · omega
theorem or_drop {l : List Ty} {k m : Nat} (hk : k < l.length) : (l.drop k).foldl (fun m a => m ||| kindOf a.kind) m = (l.drop (k + 1)).foldl (fun m a => m ||| kindOf a.kind) (m ||| kindOf l[k].kind) := by
  rw [List.drop_eq_getElem_cons hk]
  rfl
/-- The kinds as the program's text lays them. -/
def KTab (w : World) : Prop := 0 < w.heap.size ∧ ∀ q : Nat, q < 7 → w.cell? ⟨0, q, none⟩ = some (.int .i64 ((kindOf (q : Int) : Nat) : Int))
theorem KTab.below {w w' : World} (h : KTab w) (hb : Below w.heap.size w w') : KTab w' := ⟨Nat.lt_of_lt_of_le h.1 hb.size, fun q hq => (hb.cell (p := ⟨_, q, none⟩) h.1).trans (h.2 q hq)⟩
def IntB (w : World) (n : Int) (e : Ending) (w' : World) : Prop := e = .returned (.int .i64 n) ∧ Below w.heap.size w w'
theorem members_of {ns : List ByteArray} {ts : List Ty} (h : checkV (.mk 7 ns ts) = true) : ∀ a ∈ ts, 0 < a.kind ∧ a.kind ≤ 6 := by
  have hp := check_parts h
  unfold partsB at hp
  simp only [Ty.kind, Ty.names, Ty.args, if_true, Bool.and_eq_true] at hp
  exact mem_kinds hp.2
set_option maxRecDepth 100000 in
set_option maxHeartbeats 16000000 in
theorem kinds_any (t : Ty) (vn va : Value) (w : World) (hok : TyOk t) (h : TyAt w vn va t) (hT : WTab w) (hK : KTab w) :
    Calls Tryd.prog 45 #[.agg #[.int .i64 t.kind, vn, va]] w (IntB w (kindsC t : Nat)) := by
  obtain ⟨kd, ns, ts⟩ := t
  obtain ⟨hn, ht⟩ := h.parts
  obtain ⟨_, ok1, _, ok3, ok4⟩ := hok.parts
  change Calls _ _ #[.agg #[.int .i64 kd, vn, va]] w _
  have hbw : Below w.heap.size w (w.alloc (.cells #[.int .i64 kd, vn, va] 25)) := (Below.refl _ w).alloc (Nat.le_refl _) _
  have HCk : Hid (∀ W, Below w.heap.size w W → Calls Tryd.prog 53 #[.agg #[.int .i64 kd, vn, va]] W (BoolB W (checkV (.mk kd ns ts)))) := Lib.hid (fun W hb => check_any (.mk kd ns ts) vn va W (h.frame (Nat.le_refl _) hb) hok (hT.below hb))
  have HT := Lib.hid (fun (W : World) (hb : Below w.heap.size w W) => ht.below (Nat.le_refl _) hb)
  have HN := Lib.hid (Has.new w 25 [.int .i64 kd, vn, va])
  have HBW := Lib.hid hbw
  have HKt := Lib.hid (fun (W : World) (hb : Below w.heap.size w W) => hK.below hb)
  obtain ⟨R, hR⟩ : ∃ R, kindsC (.mk kd ns ts) = R := ⟨_, rfl⟩
  obtain ⟨q, hq⟩ : ∃ q, checkV (.mk kd ns ts) = q := ⟨_, rfl⟩
  have HR : Hid (R = if q then kindsV (.mk kd ns ts) else 0) := Lib.hid (by rw [← hR, ← hq, kindsC])
  have HQ := Lib.hid hq
  rw [hR]
  rw [hq] at HCk
  obtain ⟨an, cn, rfl⟩ := hn.shape
  obtain ⟨aa, ca, rfl⟩ := ht.shape
  obtain ⟨m, hm⟩ : ∃ m, ts.length = m := ⟨_, rfl⟩
  have HM := Lib.hid hm
  rw [hm] at ok3
  clear hm h hn ht hok ok4 hR hq hbw hT hK
  cases q
  · have HF : Hid (R = 0) := Lib.hid HR.out
    obtain rfl := HF.out
    clear HR
    go_enter Tryd.func45, Tryd.ntmps45
    go_wp2_with fail
    refine (HCk.out _ HBW.out).mono ?_
    rintro e w2 ⟨rfl, hb2⟩
    have HB2 := Lib.hid (HBW.out.trans (hb2.mono HBW.out.size))
    clear hb2
    go_wp2
    go_ret
    exact ⟨rfl, HB2.out⟩
  · have HK : Hid (R = kindsV (.mk kd ns ts)) := Lib.hid HR.out
    have hkd : Hid (0 ≤ kd ∧ kd ≤ 9) := Lib.hid ((Ok.top HQ.out).kind)
    have hkd := hkd.out
    have HSt : Hid (∀ W, Below (w.alloc (.cells #[.int .i64 kd, .slice an ns.length cn, .slice aa ts.length ca] 25)).heap.size (w.alloc (.cells #[.int .i64 kd, .slice an ns.length cn, .slice aa ts.length ca] 25)) W → (W.cell? ⟨w.heap.size, 0, none⟩ = some (.int .i64 kd) ∧ W.cell? ⟨w.heap.size, 2, none⟩ = some (.slice aa ts.length ca) ∧ w.heap.size < W.heap.size) ∧ Below w.heap.size w W) := Lib.hid (fun W hb => by
      have h0 := HN.out.below hb HN.out.lt
      exact ⟨⟨h0.cell 0, h0.cell 2, h0.lt⟩, HBW.out.trans (hb.mono HBW.out.size)⟩)
    clear HR
    by_cases k7 : kd = 7
    · subst k7
      have HMb := Lib.hid (members_of HQ.out)
      have HF : Hid (R = (ts.drop 0).foldl (fun m a => m ||| kindOf a.kind) 0) := Lib.hid (by rw [HK.out]; rfl)
      go_enter Tryd.func45, Tryd.ntmps45
      go_wp2_with fail
      refine (HCk.out _ HBW.out).mono ?_
      rintro e w2 ⟨rfl, hb2⟩
      obtain ⟨⟨x0, x2, l0⟩, hbx⟩ := HSt.out _ hb2
      have HB2 := Lib.hid hbx
      clear hb2 hbx
      rw [HM.out] at x2
      rw [HM.out]
      go_wp2
      clear x0 x2 l0
      go_loopw [16, 3] (fun i mm wr => ∃ k M : Nat, i = .int .i64 (k : Int) ∧ mm = .int .i64 (M : Int) ∧ k ≤ m ∧ M < 128 ∧ Hid (Below w.heap.size w wr) ∧ Hid (R = (ts.drop k).foldl (fun m a => m ||| kindOf a.kind) M)) (fun i _ _ => m - (intOf i).toNat)
      case atStart => exact ⟨0, 0, rfl, rfl, by omega, by omega, HB2, HF⟩
      case round =>
        obtain ⟨k, M, rfl, rfl, hk, hM, HB, HD⟩ := hrel
        by_cases hlt : k < m
        · have hi1 : (k : Int) < (m : Int) := by omega
          have hkl : k < ts.length := by rw [HM.out]; exact hlt
          have HD2 := Lib.hid (or_drop (m := M) hkl)
          obtain ⟨b, o, vn2, va2, rfl, hb, c0, c1, c2, c3⟩ := (HT.out _ HB.out).at k hkl
          have hmb := HMb.out _ (List.getElem_mem hkl)
          obtain ⟨an2, cn2, ab2, cb2, rfl, rfl⟩ := c3.shape
          generalize ts[k] = x at HD2 c0 c1 c2 c3 hmb
          obtain ⟨x, xn, xa⟩ := x
          change wr.cell? ⟨b, o + k * 3, none⟩ = some (.int .i64 x) at c0
          change 0 < x ∧ x ≤ 6 at hmb
          change Hid (_ = (ts.drop (k + 1)).foldl (fun m a => m ||| kindOf a.kind) (M ||| kindOf x)) at HD2
          obtain ⟨y, rfl⟩ : ∃ y : Nat, x = (y : Int) := ⟨x.toNat, by omega⟩
          have hy7 : y < 7 := by omega
          have hy7i : (y : Int) < 7 := by omega
          have gK := (HKt.out _ HB.out).2 y hy7
          have gL := (HKt.out _ HB.out).1
          have hor := or_nat hM (kindOf_lt (y : Int))
          have hlt8 : M ||| kindOf (y : Int) < 128 := Nat.or_lt_two_pow (n := 7) hM (kindOf_lt _)
          have HBn := Lib.hid (HB.out.alloc HB.out.size (.cells #[.int .i64 (y : Int), .slice an2 (Ty.mk (y : Int) xn xa).names.length cn2, .slice ab2 (Ty.mk (y : Int) xn xa).args.length cb2] 25))
          have HD3 : Hid (R = (ts.drop (k + 1)).foldl (fun m a => m ||| kindOf a.kind) (M ||| kindOf (y : Int))) := Lib.hid (by rw [HD.out, HD2.out])
          generalize hg : M ||| kindOf (y : Int) = M2 at hor hlt8 HD3
          generalize ((kindOf (y : Int) : Nat) : Int) = ky at gK hor
          clear c3 hkl HD HD2 hg
          go_wp2
          go_roundw
          case rel => exact ⟨k + 1, M2, by go_num, rfl, by omega, hlt8, HBn, HD3⟩
          case measure => simp [intOf]; omega
        · have hkm : m = k := by omega
          have HF2 : Hid (R = M) := Lib.hid (by rw [HD.out, List.drop_eq_nil_of_le (by rw [HM.out]; omega)]; rfl)
          obtain rfl := HF2.out
          subst hkm
          clear HF HK HD
          go_wp2
          go_ret
          exact ⟨rfl, HB.out⟩
    · by_cases k8 : kd = 8
      · subst k8
        have HF : Hid (R = 16) := Lib.hid (by rw [HK.out]; rfl)
        obtain rfl := HF.out
        clear HK
        go_enter Tryd.func45, Tryd.ntmps45
        go_wp2_with fail
        refine (HCk.out _ HBW.out).mono ?_
        rintro e w2 ⟨rfl, hb2⟩
        obtain ⟨⟨x0, x2, l0⟩, hbx⟩ := HSt.out _ hb2
        have HB2 := Lib.hid hbx
        clear hb2 hbx
        go_wp2
        go_ret
        exact ⟨rfl, HB2.out⟩
      · by_cases k9 : kd = 9
        · subst k9
          have HF : Hid (R = 32) := Lib.hid (by rw [HK.out]; rfl)
          obtain rfl := HF.out
          clear HK
          go_enter Tryd.func45, Tryd.ntmps45
          go_wp2_with fail
          refine (HCk.out _ HBW.out).mono ?_
          rintro e w2 ⟨rfl, hb2⟩
          obtain ⟨⟨x0, x2, l0⟩, hbx⟩ := HSt.out _ hb2
          have HB2 := Lib.hid hbx
          clear hb2 hbx
          go_wp2
          go_ret
          exact ⟨rfl, HB2.out⟩
        · have HF : Hid (R = kindOf kd) := Lib.hid (by rw [HK.out]; simp [kindsV, k7, k8, k9])
          clear HK
          have hcs : kd = 0 ∨ kd = 1 ∨ kd = 2 ∨ kd = 3 ∨ kd = 4 ∨ kd = 5 ∨ kd = 6 := by omega
          clear hkd k7 k8 k9
          rcases hcs with rfl | rfl | rfl | rfl | rfl | rfl | rfl
          all_goals
            obtain rfl := HF.out
            clear HF
            go_enter Tryd.func45, Tryd.ntmps45
            go_wp2_with fail
            refine (HCk.out _ HBW.out).mono ?_
            rintro e w2 ⟨rfl, hb2⟩
            obtain ⟨⟨x0, x2, l0⟩, hbx⟩ := HSt.out _ hb2
            have HB2 := Lib.hid hbx
            have gK := (HKt.out _ hbx).2
            have gL := (HKt.out _ hbx).1
            have g0 := gK 0 (by omega)
            have g1 := gK 1 (by omega)
            have g2 := gK 2 (by omega)
            have g3 := gK 3 (by omega)
            have g4 := gK 4 (by omega)
            have g5 := gK 5 (by omega)
            have g6 := gK 6 (by omega)
            simp only [kindOf] at g0 g1 g2 g3 g4 g5 g6
            clear gK
            clear hb2 hbx
            go_wp2
            go_ret
            exact ⟨rfl, HB2.out⟩
set_option maxRecDepth 100000 in
set_option maxHeartbeats 16000000 in
theorem refKinds_flat (t : Ty) (vn va : Value) (w : World) (hok : TyOk t) (h : TyAt w vn va t) (hk6 : t.kind ≤ 6) :
    Calls Tryd.prog 48 #[.agg #[.int .i64 t.kind, vn, va]] w (IntB w (kindsC t : Nat)) := by
  obtain ⟨kd, ns, ts⟩ := t
  obtain ⟨hn, ht⟩ := h.parts
  obtain ⟨_, ok1, _, ok3, ok4⟩ := hok.parts
  change Calls _ _ #[.agg #[.int .i64 kd, vn, va]] w _
  have hbw : Below w.heap.size w (w.alloc (.cells #[.int .i64 kd, vn, va] 25)) := (Below.refl _ w).alloc (Nat.le_refl _) _
  have HCk : Hid (∀ W, Below w.heap.size w W → Calls Tryd.prog 29 #[.agg #[.int .i64 kd, vn, va]] W (BoolB W (checkV (.mk kd ns ts)))) := Lib.hid (fun W hb => refCheck_any (.mk kd ns ts) vn va W (h.frame (Nat.le_refl _) hb) hok)
  have HT := Lib.hid (fun (W : World) (hb : Below w.heap.size w W) => ht.below (Nat.le_refl _) hb)
  have HN := Lib.hid (Has.new w 25 [.int .i64 kd, vn, va])
  have HBW := Lib.hid hbw
  have HO4 := Lib.hid ok4
  obtain ⟨R, hR⟩ : ∃ R, kindsC (.mk kd ns ts) = R := ⟨_, rfl⟩
  obtain ⟨q, hq⟩ : ∃ q, checkV (.mk kd ns ts) = q := ⟨_, rfl⟩
  have HR : Hid (R = if q then kindsV (.mk kd ns ts) else 0) := Lib.hid (by rw [← hR, ← hq, kindsC])
  have HQ := Lib.hid hq
  rw [hR]
  rw [hq] at HCk
  obtain ⟨an, cn, rfl⟩ := hn.shape
  obtain ⟨aa, ca, rfl⟩ := ht.shape
  obtain ⟨m, hm⟩ : ∃ m, ts.length = m := ⟨_, rfl⟩
  have HM := Lib.hid hm
  rw [hm] at ok3
  clear hm h hn ht hok ok4 hR hq hbw
  cases q
  · have HF : Hid (R = 0) := Lib.hid HR.out
    obtain rfl := HF.out
    clear HR
    go_enter Tryd.func48, Tryd.ntmps48
    go_wp2_with fail
    refine (HCk.out _ HBW.out).mono ?_
    rintro e w2 ⟨rfl, hb2⟩
    have HB2 := Lib.hid (HBW.out.trans (hb2.mono HBW.out.size))
    clear hb2
    go_wp2
    go_ret
    exact ⟨rfl, HB2.out⟩
  · have HK : Hid (R = kindsV (.mk kd ns ts)) := Lib.hid HR.out
    have hkd : Hid (0 ≤ kd ∧ kd ≤ 9) := Lib.hid ((Ok.top HQ.out).kind)
    have hkd := hkd.out
    have HSt : Hid (∀ W, Below (w.alloc (.cells #[.int .i64 kd, .slice an ns.length cn, .slice aa ts.length ca] 25)).heap.size (w.alloc (.cells #[.int .i64 kd, .slice an ns.length cn, .slice aa ts.length ca] 25)) W → (W.cell? ⟨w.heap.size, 0, none⟩ = some (.int .i64 kd) ∧ W.cell? ⟨w.heap.size, 2, none⟩ = some (.slice aa ts.length ca) ∧ w.heap.size < W.heap.size) ∧ Below w.heap.size w W) := Lib.hid (fun W hb => by
      have h0 := HN.out.below hb HN.out.lt
      exact ⟨⟨h0.cell 0, h0.cell 2, h0.lt⟩, HBW.out.trans (hb.mono HBW.out.size)⟩)
    clear HR
    change kd ≤ 6 at hk6
    have k7 : ¬ kd = 7 := by omega
    have k8 : ¬ kd = 8 := by omega
    have k9 : ¬ kd = 9 := by omega
    have HF : Hid (R = kindOf kd) := Lib.hid (by rw [HK.out]; simp [kindsV, k7, k8, k9])
    clear HK
    have hcs : kd = 0 ∨ kd = 1 ∨ kd = 2 ∨ kd = 3 ∨ kd = 4 ∨ kd = 5 ∨ kd = 6 := by omega
    clear hkd k7 k8 k9
    rcases hcs with rfl | rfl | rfl | rfl | rfl | rfl | rfl
    all_goals
      obtain rfl := HF.out
      clear HF
      go_enter Tryd.func48, Tryd.ntmps48
      go_wp2_with fail
      refine (HCk.out _ HBW.out).mono ?_
      rintro e w2 ⟨rfl, hb2⟩
      obtain ⟨⟨x0, x2, l0⟩, hbx⟩ := HSt.out _ hb2
      have HB2 := Lib.hid hbx
      clear hb2 hbx
      go_wp2
      go_ret
      exact ⟨rfl, HB2.out⟩
set_option maxRecDepth 100000 in
set_option maxHeartbeats 16000000 in
theorem refKinds_any (t : Ty) (vn va : Value) (w : World) (hok : TyOk t) (h : TyAt w vn va t)  :
    Calls Tryd.prog 48 #[.agg #[.int .i64 t.kind, vn, va]] w (IntB w (kindsC t : Nat)) := by
  obtain ⟨kd, ns, ts⟩ := t
  obtain ⟨hn, ht⟩ := h.parts
  obtain ⟨_, ok1, _, ok3, ok4⟩ := hok.parts
  change Calls _ _ #[.agg #[.int .i64 kd, vn, va]] w _
  have hbw : Below w.heap.size w (w.alloc (.cells #[.int .i64 kd, vn, va] 25)) := (Below.refl _ w).alloc (Nat.le_refl _) _
  have HCk : Hid (∀ W, Below w.heap.size w W → Calls Tryd.prog 29 #[.agg #[.int .i64 kd, vn, va]] W (BoolB W (checkV (.mk kd ns ts)))) := Lib.hid (fun W hb => refCheck_any (.mk kd ns ts) vn va W (h.frame (Nat.le_refl _) hb) hok)
  have HT := Lib.hid (fun (W : World) (hb : Below w.heap.size w W) => ht.below (Nat.le_refl _) hb)
  have HN := Lib.hid (Has.new w 25 [.int .i64 kd, vn, va])
  have HBW := Lib.hid hbw
  have HO4 := Lib.hid ok4
  obtain ⟨R, hR⟩ : ∃ R, kindsC (.mk kd ns ts) = R := ⟨_, rfl⟩
  obtain ⟨q, hq⟩ : ∃ q, checkV (.mk kd ns ts) = q := ⟨_, rfl⟩
  have HR : Hid (R = if q then kindsV (.mk kd ns ts) else 0) := Lib.hid (by rw [← hR, ← hq, kindsC])
  have HQ := Lib.hid hq
  rw [hR]
  rw [hq] at HCk
  obtain ⟨an, cn, rfl⟩ := hn.shape
  obtain ⟨aa, ca, rfl⟩ := ht.shape
  obtain ⟨m, hm⟩ : ∃ m, ts.length = m := ⟨_, rfl⟩
  have HM := Lib.hid hm
  rw [hm] at ok3
  clear hm h hn ht hok ok4 hR hq hbw
  cases q
  · have HF : Hid (R = 0) := Lib.hid HR.out
    obtain rfl := HF.out
    clear HR
    go_enter Tryd.func48, Tryd.ntmps48
    go_wp2_with fail
    refine (HCk.out _ HBW.out).mono ?_
    rintro e w2 ⟨rfl, hb2⟩
    have HB2 := Lib.hid (HBW.out.trans (hb2.mono HBW.out.size))
    clear hb2
    go_wp2
    go_ret
    exact ⟨rfl, HB2.out⟩
  · have HK : Hid (R = kindsV (.mk kd ns ts)) := Lib.hid HR.out
    have hkd : Hid (0 ≤ kd ∧ kd ≤ 9) := Lib.hid ((Ok.top HQ.out).kind)
    have hkd := hkd.out
    have HSt : Hid (∀ W, Below (w.alloc (.cells #[.int .i64 kd, .slice an ns.length cn, .slice aa ts.length ca] 25)).heap.size (w.alloc (.cells #[.int .i64 kd, .slice an ns.length cn, .slice aa ts.length ca] 25)) W → (W.cell? ⟨w.heap.size, 0, none⟩ = some (.int .i64 kd) ∧ W.cell? ⟨w.heap.size, 2, none⟩ = some (.slice aa ts.length ca) ∧ w.heap.size < W.heap.size) ∧ Below w.heap.size w W) := Lib.hid (fun W hb => by
      have h0 := HN.out.below hb HN.out.lt
      exact ⟨⟨h0.cell 0, h0.cell 2, h0.lt⟩, HBW.out.trans (hb.mono HBW.out.size)⟩)
    clear HR
    by_cases k7 : kd = 7
    · subst k7
      have HMb := Lib.hid (members_of HQ.out)
      have HF : Hid (R = (ts.drop 0).foldl (fun m a => m ||| kindOf a.kind) 0) := Lib.hid (by rw [HK.out]; rfl)
      go_enter Tryd.func48, Tryd.ntmps48
      go_wp2_with fail
      refine (HCk.out _ HBW.out).mono ?_
      rintro e w2 ⟨rfl, hb2⟩
      obtain ⟨⟨x0, x2, l0⟩, hbx⟩ := HSt.out _ hb2
      have HB2 := Lib.hid hbx
      clear hb2 hbx
      rw [HM.out] at x2
      rw [HM.out]
      go_wp2
      clear x0 x2 l0
      go_loopw [18, 3] (fun i mm wr => ∃ k M : Nat, i = .int .i64 (k : Int) ∧ mm = .int .i64 (M : Int) ∧ k ≤ m ∧ M < 128 ∧ Hid (Below w.heap.size w wr) ∧ Hid (R = (ts.drop k).foldl (fun m a => m ||| kindOf a.kind) M)) (fun i _ _ => m - (intOf i).toNat)
      case atStart => exact ⟨0, 0, rfl, rfl, by omega, by omega, HB2, HF⟩
      case round =>
        obtain ⟨k, M, rfl, rfl, hk, hM, HB, HD⟩ := hrel
        by_cases hlt : k < m
        · have hi1 : (k : Int) < (m : Int) := by omega
          have hkl : k < ts.length := by rw [HM.out]; exact hlt
          have HD2 := Lib.hid (or_drop (m := M) hkl)
          obtain ⟨b, o, vn2, va2, rfl, hb, c0, c1, c2, c3⟩ := (HT.out _ HB.out).at k hkl
          have hmb := HMb.out _ (List.getElem_mem hkl)
          have hKA : Below wr.heap.size wr (wr.alloc (.cells #[.int .i64 ts[k].kind, vn2, va2] 25)) := (Below.refl _ wr).alloc (Nat.le_refl _) _
          have hxc : checkV ts[k] = true := check_part HQ.out (List.getElem_mem hkl)
          have HC3 := Lib.hid (refKinds_flat ts[k] vn2 va2 (wr.alloc (.cells #[.int .i64 ts[k].kind, vn2, va2] 25)) (HO4.out _ (List.getElem_mem hkl)) (c3.frame (Nat.le_refl _) hKA) (by omega))
          have HKx : Hid (kindsC ts[k] = kindOf ts[k].kind) := Lib.hid (by
            unfold kindsC
            rw [if_pos hxc]
            have e := (Ok.top hxc).plain (by omega)
            generalize ts[k] = x at e hmb
            obtain ⟨x, xn, xa⟩ := x
            change 0 < x ∧ x ≤ 6 at hmb
            rw [kindsV, if_neg (by omega), if_neg (by omega), if_neg (by omega)]
            rfl)
          rw [HKx.out] at HC3
          have HKA := Lib.hid hKA
          obtain ⟨an2, cn2, ab2, cb2, rfl, rfl⟩ := c3.shape
          have hor := or_nat hM (kindOf_lt ts[k].kind)
          have hlt8 : M ||| kindOf ts[k].kind < 128 := Nat.or_lt_two_pow (n := 7) hM (kindOf_lt _)
          generalize ts[k] = x at HD2 c0 c1 c2 c3 HC3 HKA hor hlt8
          have HD3 : Hid (R = (ts.drop (k + 1)).foldl (fun m a => m ||| kindOf a.kind) (M ||| kindOf x.kind)) := Lib.hid (by rw [HD.out, HD2.out])
          generalize hg : M ||| kindOf x.kind = M2 at hor hlt8 HD3
          generalize ((kindOf x.kind : Nat) : Int) = ky at HC3 hor
          clear c3 hkl HD HD2 hg hKA hxc HKx hmb
          go_wp2_with fail
          refine (HC3.out).mono ?_
          rintro e w3 ⟨rfl, hb3⟩
          have HB3 := Lib.hid (HB.out.trans ((HKA.out.trans (hb3.mono (by simp))).mono HB.out.size))
          clear hb3 HC3
          go_wp2
          go_roundw
          case rel => exact ⟨k + 1, M2, by go_num, rfl, by omega, hlt8, HB3, HD3⟩
          case measure => simp [intOf]; omega
        · have hkm : m = k := by omega
          have HF2 : Hid (R = M) := Lib.hid (by rw [HD.out, List.drop_eq_nil_of_le (by rw [HM.out]; omega)]; rfl)
          obtain rfl := HF2.out
          subst hkm
          clear HF HK HD
          go_wp2
          go_ret
          exact ⟨rfl, HB.out⟩
    · by_cases k8 : kd = 8
      · subst k8
        have HF : Hid (R = 16) := Lib.hid (by rw [HK.out]; rfl)
        obtain rfl := HF.out
        clear HK
        go_enter Tryd.func48, Tryd.ntmps48
        go_wp2_with fail
        refine (HCk.out _ HBW.out).mono ?_
        rintro e w2 ⟨rfl, hb2⟩
        obtain ⟨⟨x0, x2, l0⟩, hbx⟩ := HSt.out _ hb2
        have HB2 := Lib.hid hbx
        clear hb2 hbx
        go_wp2
        go_ret
        exact ⟨rfl, HB2.out⟩
      · by_cases k9 : kd = 9
        · subst k9
          have HF : Hid (R = 32) := Lib.hid (by rw [HK.out]; rfl)
          obtain rfl := HF.out
          clear HK
          go_enter Tryd.func48, Tryd.ntmps48
          go_wp2_with fail
          refine (HCk.out _ HBW.out).mono ?_
          rintro e w2 ⟨rfl, hb2⟩
          obtain ⟨⟨x0, x2, l0⟩, hbx⟩ := HSt.out _ hb2
          have HB2 := Lib.hid hbx
          clear hb2 hbx
          go_wp2
          go_ret
          exact ⟨rfl, HB2.out⟩
        · have HF : Hid (R = kindOf kd) := Lib.hid (by rw [HK.out]; simp [kindsV, k7, k8, k9])
          clear HK
          have hcs : kd = 0 ∨ kd = 1 ∨ kd = 2 ∨ kd = 3 ∨ kd = 4 ∨ kd = 5 ∨ kd = 6 := by omega
          clear hkd k7 k8 k9
          rcases hcs with rfl | rfl | rfl | rfl | rfl | rfl | rfl
          all_goals
            obtain rfl := HF.out
            clear HF
            go_enter Tryd.func48, Tryd.ntmps48
            go_wp2_with fail
            refine (HCk.out _ HBW.out).mono ?_
            rintro e w2 ⟨rfl, hb2⟩
            obtain ⟨⟨x0, x2, l0⟩, hbx⟩ := HSt.out _ hb2
            have HB2 := Lib.hid hbx
            clear hb2 hbx
            go_wp2
            go_ret
            exact ⟨rfl, HB2.out⟩
end TyD
end Go.Proofs.YthcdbmbimdkcfaaDoor
