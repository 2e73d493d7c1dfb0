/- Sub: the document's, of two functions. -/
import Derived.Test.YtjddjiggelpdnaaDoorTyRSubA
namespace Go.Proofs.YtjddjiggelpdnaaDoor
open Go.RowKit ObjM
namespace TyD
open LexD (nameB WTab)

set_option maxRecDepth 100000 in
set_option maxHeartbeats 32000000 in
theorem rsub99 (r : Nat) (a b : Ty) (vn va un ua : Value) (w : World) (ak : a.kind = 9) (bk : b.kind = 9) (hlen : a.args.length = b.args.length) (hva : Ok (r + 1) a) (hvb : Ok (r + 1) b) (oka : TyOk a) (okb : TyOk b) (ha : TyAt w vn va a) (hb : TyAt w un ua b)
    (ih : ∀ (a b : Ty) (vn va un ua : Value) (w : World), Ok r a → Ok r b → TyOk a → TyOk b → TyAt w vn va a → TyAt w un ua b →
      Calls Tryd.prog 34 #[.agg #[.int .i64 a.kind, vn, va], .agg #[.int .i64 b.kind, un, ua]] w (BoolB w (subB r a b))) :
    Calls Tryd.prog 34 #[.agg #[.int .i64 a.kind, vn, va], .agg #[.int .i64 b.kind, un, ua]] w (BoolB w (subB (r + 1) a b)) := by
  obtain ⟨hh0, hh1, hbw, hsz⟩ := box2 w [.int .i64 a.kind, vn, va] [.int .i64 b.kind, un, ua] 25 _ rfl
  have HTa := Lib.hid (fun (W : World) (h : Below w.heap.size w W) => ha.frame (Nat.le_refl _) h)
  have HTb := Lib.hid (fun (W : World) (h : Below w.heap.size w W) => hb.frame (Nat.le_refl _) h)
  have HK5 := Lib.hid (fun (W : World) (h : Below w.heap.size w W) => refKinds_any (.mk 5 [] []) (.slice none 0 0) (.slice none 0 0) W tab_ok (TyAt.of (StrsAt.nil W) (TysAt.nil W)))
  rw [show kindsC (.mk 5 [] []) = 16 by decide +kernel] at HK5
  have HFa := Lib.hid (fun (W : World) (h : Below w.heap.size w W) => rflat10_any a vn va W (HTa.out _ h))
  have HFb := Lib.hid (fun (W : World) (h : Below w.heap.size w W) => rflat10_any b un ua W (HTb.out _ h))
  rw [show flatB a.kind = false by rw [ak]; decide] at HFa
  rw [show flatB b.kind = false by rw [bk]; decide] at HFb
  have HR : Hid (subB (r + 1) a b = arrowB (subB r) a.args b.args) := Lib.hid (by show (if b.kind = 0 then true else if a.kind = 0 then false else if a.kind = 8 ∧ b.kind = 8 then fieldsB sameV a b else if a.kind = 9 ∧ b.kind = 9 then arrowB (subB r) a.args b.args else _) = _; rw [if_neg (by omega), if_neg (by omega), if_neg (by omega), if_pos ⟨ak, bk⟩])
  have HAa := Lib.hid (show TysAt w va a.args by obtain ⟨k, ns, ts⟩ := a; exact ha.parts.2)
  have HAb := Lib.hid (show TysAt w ua b.args by obtain ⟨k, ns, ts⟩ := b; exact hb.parts.2)
  have HIH : Hid (∀ (x y : Ty) (vn va un ua : Value) (W : World), (x ∈ a.args ∧ y ∈ b.args ∨ x ∈ b.args ∧ y ∈ a.args) → TyAt W vn va x → TyAt W un ua y → Calls Tryd.prog 34 #[.agg #[.int .i64 x.kind, vn, va], .agg #[.int .i64 y.kind, un, ua]] W (BoolB W (subB r x y))) := Lib.hid (fun x y vn va un ua W h h1 h2 => by
    rcases h with ⟨hx, hy⟩ | ⟨hx, hy⟩
    · exact ih x y vn va un ua W (hva.pred x hx) (hvb.pred y hy) (okArg oka x hx) (okArg okb y hy) h1 h2
    · exact ih x y vn va un ua W (hvb.pred x hx) (hva.pred y hy) (okArg okb x hx) (okArg oka y hy) h1 h2)
  obtain ⟨m, hm⟩ : ∃ m, a.args.length = m + 1 := ⟨a.args.length - 1, by have := (hva.func ak).2; omega⟩
  have hm' := hlen.symm.trans hm
  have HLm := Lib.hid hm
  have HLm' := Lib.hid hm'
  have HLa : Hid (a.args.length ≤ 140737488355328) := Lib.hid (by obtain ⟨k, ns, ts⟩ := a; exact oka.parts.2.2.2.1)
  have hmi : (m : Int) ≤ 140737488355328 := by have := HLa.out; omega
  have HF : Hid (subB (r + 1) a b = (((a.args.dropLast.drop 0).zip (b.args.dropLast.drop 0)).all (fun x => subB r x.2 x.1) && subB r (a.args.getLastD anyT) (b.args.getLastD anyT))) := Lib.hid (by rw [HR.out]; unfold arrowB; rw [decide_eq_true hlen]; rfl)
  obtain ⟨R, hR⟩ : ∃ R, subB (r + 1) a b = R := ⟨_, rfl⟩
  rw [hR] at HF ⊢
  clear hR HR
  have e1 : (b.kind == 0) = false := by simp; omega
  have e8 : (a.kind == 8) = false := by simp; omega
  have e9 : (a.kind == 9) = true := by simpa using ak
  have f9 : (b.kind == 9) = true := by simpa using bk
  obtain ⟨an, cn, aa, ca, rfl, rfl⟩ := ha.shape
  obtain ⟨bn, dn, bb, db, rfl, rfl⟩ := hb.shape
  have HAf : Hid (∀ W, Below (w.heap.size + 1 + 1) ((w.alloc (.cells #[.int .i64 a.kind, .slice an a.names.length cn, .slice aa a.args.length ca] 25)).alloc (.cells #[.int .i64 b.kind, .slice bn b.names.length dn, .slice bb b.args.length db] 25)) W → (W.cell? ⟨w.heap.size, 0, none⟩ = some (.int .i64 a.kind) ∧ W.cell? ⟨w.heap.size, 1, none⟩ = some (.slice an a.names.length cn) ∧ W.cell? ⟨w.heap.size, 2, none⟩ = some (.slice aa a.args.length ca) ∧ W.cell? ⟨w.heap.size + 1, 0, none⟩ = some (.int .i64 b.kind) ∧ W.cell? ⟨w.heap.size + 1, 1, none⟩ = some (.slice bn b.names.length dn) ∧ W.cell? ⟨w.heap.size + 1, 2, none⟩ = some (.slice bb b.args.length db) ∧ w.heap.size < W.heap.size ∧ w.heap.size + 1 < W.heap.size) ∧ Below w.heap.size w W) := Lib.hid (fun W h => by
    have g0 := hh0.below h (by omega)
    have g1 := hh1.below h (by omega)
    exact ⟨⟨g0.cell 0, g0.cell 1, g0.cell 2, g1.cell 0, g1.cell 1, g1.cell 2, g0.lt, g1.lt⟩, hbw.trans (h.mono (by omega))⟩)
  have HB0 : Hid (Below (w.heap.size + 1 + 1) ((w.alloc (.cells #[.int .i64 a.kind, .slice an a.names.length cn, .slice aa a.args.length ca] 25)).alloc (.cells #[.int .i64 b.kind, .slice bn b.names.length dn, .slice bb b.args.length db] 25)) ((w.alloc (.cells #[.int .i64 a.kind, .slice an a.names.length cn, .slice aa a.args.length ca] 25)).alloc (.cells #[.int .i64 b.kind, .slice bn b.names.length dn, .slice bb b.args.length db] 25))) := Lib.hid (Below.refl _ _)
  have HW0 := Lib.hid (HAf.out _ HB0.out).2
  have HSz : Hid (((w.alloc (.cells #[.int .i64 a.kind, .slice an a.names.length cn, .slice aa a.args.length ca] 25)).alloc (.cells #[.int .i64 b.kind, .slice bn b.names.length dn, .slice bb b.args.length db] 25)).heap.size = w.heap.size + 1 + 1) := Lib.hid hsz
  have HFx : Hid (∀ W W', Below (w.heap.size + 1 + 1) ((w.alloc (.cells #[.int .i64 a.kind, .slice an a.names.length cn, .slice aa a.args.length ca] 25)).alloc (.cells #[.int .i64 b.kind, .slice bn b.names.length dn, .slice bb b.args.length db] 25)) W → Below W.heap.size W W' → Below (w.heap.size + 1 + 1) ((w.alloc (.cells #[.int .i64 a.kind, .slice an a.names.length cn, .slice aa a.args.length ca] 25)).alloc (.cells #[.int .i64 b.kind, .slice bn b.names.length dn, .slice bb b.args.length db] 25)) W') := Lib.hid (fun W W' h1 h2 => h1.trans (h2.mono (by have := h1.size; rw [HSz.out] at this; exact this)))
  rw [hm] at HAf HB0 HW0 HSz HFx ⊢
  rw [hm'] at HAf HB0 HW0 HSz HFx ⊢
  have hne : (((m + 1 : Nat) : Int) == ((m + 1 : Nat) : Int)) = true := by simp
  have hsub : ((m + 1 : Nat) : Int) - 1 = (m : Int) := by omega
  rw [hm] at HTa HAa HFa
  rw [hm'] at HTb HAb
  clear ha hb oka okb hva hvb hh0 hh1 hbw hsz ak bk ih hlen hm hm'
  go_enter Tryd.func34, Tryd.ntmps34
  go_wp2_with fail
  refine (HK5.out _ HW0.out).mono ?_
  rintro e w1 ⟨rfl, hb⟩
  have HB1 := Lib.hid (HFx.out _ _ HB0.out hb)
  obtain ⟨⟨x0, x1, x2, y0, y1, y2, lA, lB⟩, hw⟩ := HAf.out _ HB1.out
  have HW1 := Lib.hid hw
  clear hb hw
  go_wp2_with fail
  refine (HFa.out _ HW1.out).mono ?_
  rintro e w2 ⟨rfl, hb⟩
  have HB2 := Lib.hid (HFx.out _ _ HB1.out hb)
  clear x0 x1 x2 y0 y1 y2 lA lB
  obtain ⟨⟨x0, x1, x2, y0, y1, y2, lA, lB⟩, hw⟩ := HAf.out _ HB2.out
  have HW2 := Lib.hid hw
  clear hb hw
  go_wp2
  clear x0 x1 x2 y0 y1 y2 lA lB
  go_loopw [11] (fun i wr => ∃ j : Nat, i = .int .i64 (j : Int) ∧ j ≤ m ∧ Hid (Below (w.heap.size + 1 + 1) (((w.alloc (.cells #[.int .i64 a.kind, .slice an a.names.length cn, .slice aa (m + 1) ca] 25)).alloc (.cells #[.int .i64 b.kind, .slice bn b.names.length dn, .slice bb (m + 1) db] 25))) wr) ∧ Hid (R = (((a.args.dropLast.drop j).zip (b.args.dropLast.drop j)).all (fun x => subB r x.2 x.1) && subB r (a.args.getLastD anyT) (b.args.getLastD anyT)))) (fun i _ => m - (intOf i).toNat)
  case atStart => exact ⟨0, rfl, by omega, HB2, HF⟩
  case round =>
    obtain ⟨j, rfl, hj, HB, HD⟩ := hrel
    obtain ⟨⟨x0, x1, x2, y0, y1, y2, lA, lB⟩, hbr⟩ := HAf.out _ HB.out
    have HBr := Lib.hid hbr
    clear hbr x0 x1 y0 y1
    have hdw : Below wr.heap.size wr wr.drew := (Below.refl _ _).drew
    by_cases hlt : j < m
    · have hi1 : (j : Int) < (m : Int) := by omega
      have hi2 : (j : Int) < ((m + 1 : Nat) : Int) := by omega
      have hi3 : (j : Int) < (m : Int) + 1 := by omega
      have hjt : j < a.args.length := by rw [HLm.out]; omega
      have hjt' : j < b.args.length := by rw [HLm'.out]; omega
      have HD2 := Lib.hid (arrowDrop (p := subB r) (ts := a.args) (us := b.args) (j := j) (by rw [HLm.out]; omega) (by rw [HLm'.out]; omega))
      obtain ⟨ba, oa, vn, va, rfl, hba, c0, c1, c2, c3⟩ := HAa.out.at_base HBr.out j hjt
      obtain ⟨bb, ob, un, ub, rfl, hbb, d0, d1, d2, d3⟩ := HAb.out.at_base HBr.out j hjt'
      have HC := Lib.hid (HIH.out b.args[j] a.args[j] un ub vn va wr.drew (.inr ⟨List.getElem_mem hjt', List.getElem_mem hjt⟩) (d3.frame (Nat.le_refl _) HBr.out.drew) (c3.frame (Nat.le_refl _) HBr.out.drew))
      obtain ⟨an2, cn2, ab2, cb2, rfl, rfl⟩ := c3.shape
      obtain ⟨bn2, dn2, bb2, db2, rfl, rfl⟩ := d3.shape
      generalize a.args[j] = x at HD2 c0 c1 c2 c3 HC
      generalize b.args[j] = y at HD2 d0 d1 d2 d3 HC
      obtain ⟨z, hz⟩ : ∃ z, subB r y x = z := ⟨_, rfl⟩
      rw [hz] at HC HD2
      clear c3 d3 hjt hjt' hz hdw
      go_wp2
      go_still_tail 10, (by kernel_rfl)
      change wpList _ _ _ _ _ wr.drew
      go_wp2_with fail
      refine (HC.out).mono ?_
      rintro e w4 ⟨rfl, hb4⟩
      have HB4 := Lib.hid (HFx.out _ _ HB.out ((Below.refl wr.heap.size wr).drew.trans hb4))
      have HB4r := Lib.hid (HAf.out _ HB4.out).2
      clear hb4
      cases z
      · have HF3 : Hid (R = false) := Lib.hid (by rw [HD.out, HD2.out]; rfl)
        obtain rfl := HF3.out
        clear HD HD2 HF
        go_wp2
        go_ret
        exact ⟨rfl, HB4r.out⟩
      · have HD4 : Hid (R = (((a.args.dropLast.drop (j + 1)).zip (b.args.dropLast.drop (j + 1))).all (fun x => subB r x.2 x.1) && subB r (a.args.getLastD anyT) (b.args.getLastD anyT))) := Lib.hid (by rw [HD.out, HD2.out]; rfl)
        clear HD HD2
        go_wp2
        go_roundw
        case rel => exact ⟨j + 1, by go_num, by omega, HB4, HD4⟩
        case measure => simp [intOf]; omega
    · have hjm : m = j := by omega
      subst hjm
      have hjt : m < a.args.length := by rw [HLm.out]; omega
      have hjt' : m < b.args.length := by rw [HLm'.out]; omega
      have hi3 : (m : Int) < (m : Int) + 1 := by omega
      have HF3 : Hid (R = subB r a.args[m] b.args[m]) := Lib.hid (by
        rw [HD.out, List.drop_eq_nil_of_le (by simp [HLm.out]), List.drop_eq_nil_of_le (by simp [HLm'.out]), last_at HLm.out, last_at HLm'.out]
        rfl)
      obtain ⟨ba, oa, vn, va, rfl, hba, c0, c1, c2, c3⟩ := HAa.out.at_base HBr.out m hjt
      obtain ⟨bb, ob, un, ub, rfl, hbb, d0, d1, d2, d3⟩ := HAb.out.at_base HBr.out m hjt'
      have HC := Lib.hid (HIH.out a.args[m] b.args[m] vn va un ub wr.drew (.inl ⟨List.getElem_mem hjt, List.getElem_mem hjt'⟩) (c3.frame (Nat.le_refl _) HBr.out.drew) (d3.frame (Nat.le_refl _) HBr.out.drew))
      obtain ⟨an2, cn2, ab2, cb2, rfl, rfl⟩ := c3.shape
      obtain ⟨bn2, dn2, bb2, db2, rfl, rfl⟩ := d3.shape
      generalize a.args[m] = x at HF3 c0 c1 c2 c3 HC
      generalize b.args[m] = y at HF3 d0 d1 d2 d3 HC
      obtain ⟨z, hz⟩ : ∃ z, subB r x y = z := ⟨_, rfl⟩
      rw [hz] at HC HF3
      obtain rfl := HF3.out
      clear c3 d3 hjt hjt' hz hdw HD HF
      go_wp2
      go_still_tail 10, (by kernel_rfl)
      change wpList _ _ _ _ _ wr.drew
      go_wp2_with fail
      refine (HC.out).mono ?_
      rintro e w4 ⟨rfl, hb4⟩
      have HB4 := Lib.hid (HBr.out.drew.trans (hb4.mono HBr.out.drew.size))
      clear hb4
      go_wp2
      go_ret
      exact ⟨rfl, HB4.out⟩
end TyD
end Go.Proofs.YtjddjiggelpdnaaDoor
