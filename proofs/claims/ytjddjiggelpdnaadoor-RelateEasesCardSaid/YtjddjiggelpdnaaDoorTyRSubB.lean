/- Sub: the document's, of two shapes. -/
import Derived.Test.YtjddjiggelpdnaaDoorTyRSubA
namespace Go.Proofs.YtjddjiggelpdnaaDoor
open Go.RowKit ObjM
namespace TyD
open LexD (nameB WTab)

def lkB (o : Option Ty) (y : Ty) : Bool := match o with | none => false | some x => sameV x y
set_option maxRecDepth 100000 in
set_option maxHeartbeats 32000000 in
theorem rsub88 (r : Nat) (a b : Ty) (vn va un ua : Value) (w : World) (ak : a.kind = 8) (bk : b.kind = 8) (hva : Ok (r + 1) a) (hvb : Ok (r + 1) b) (oka : TyOk a) (okb : TyOk b) (ha : TyAt w vn va a) (hb : TyAt w un ua b) :
    Calls Tryd.prog 34 #[.agg #[.int .i64 a.kind, vn, va], .agg #[.int .i64 b.kind, un, ua]] w (BoolB w (subB (r + 1) a b)) := by
  obtain ⟨hh0, hh1, hbw, hsz⟩ := box2 w [.int .i64 a.kind, vn, va] [.int .i64 b.kind, un, ua] 25 _ rfl
  have HTa := Lib.hid (fun (W : World) (h : Below w.heap.size w W) => ha.frame (Nat.le_refl _) h)
  have HTb := Lib.hid (fun (W : World) (h : Below w.heap.size w W) => hb.frame (Nat.le_refl _) h)
  have HK5 := Lib.hid (fun (W : World) (h : Below w.heap.size w W) => refKinds_any (.mk 5 [] []) (.slice none 0 0) (.slice none 0 0) W tab_ok (TyAt.of (StrsAt.nil W) (TysAt.nil W)))
  rw [show kindsC (.mk 5 [] []) = 16 by decide +kernel] at HK5
  have HFa := Lib.hid (fun (W : World) (h : Below w.heap.size w W) => rflat10_any a vn va W (HTa.out _ h))
  have HFb := Lib.hid (fun (W : World) (h : Below w.heap.size w W) => rflat10_any b un ua W (HTb.out _ h))
  rw [show flatB a.kind = false by rw [ak]; decide] at HFa
  rw [show flatB b.kind = false by rw [bk]; decide] at HFb
  have HR : Hid (subB (r + 1) a b = fieldsB sameV a b) := Lib.hid (by show (if b.kind = 0 then true else if a.kind = 0 then false else if a.kind = 8 ∧ b.kind = 8 then fieldsB sameV a b else _) = _; rw [if_neg (by omega), if_neg (by omega), if_pos ⟨ak, bk⟩])
  have HNb := Lib.hid (fun (W : World) (h : Below w.heap.size w W) => (show StrsAt W un b.names by obtain ⟨k, ns, ts⟩ := b; exact (hb.frame (Nat.le_refl _) h).parts.1))
  have HAb := Lib.hid (show TysAt w ua b.args by obtain ⟨k, ns, ts⟩ := b; exact hb.parts.2)
  have HFd2 := Lib.hid (fun (s : ByteArray) (W : World) (h : Below w.heap.size w W) => field_any a s vn va W oka (HTa.out _ h) (hva.shape ak).1)
  have HLn := Lib.hid (hvb.shape bk).1
  have HOa := Lib.hid (okArg oka)
  have HOb := Lib.hid (okArg okb)
  have HLb : Hid (b.args.length ≤ 140737488355328 ∧ b.names.length ≤ 140737488355328) := Lib.hid (by obtain ⟨k, ns, ts⟩ := b; exact ⟨okb.parts.2.2.2.1, okb.parts.2.1⟩)
  obtain ⟨R, hR⟩ : ∃ R, subB (r + 1) a b = R := ⟨_, rfl⟩
  rw [hR] at HR ⊢
  clear hR
  have e1 : (b.kind == 0) = false := by simp; omega
  have e8 : (a.kind == 8) = true := by simpa using ak
  have f8 : (b.kind == 8) = true := by simpa using bk
  have HF : Hid (R = ((b.names.drop 0).zip (b.args.drop 0)).all fun x => match look a x.1 with | none => false | some y => sameV y x.2) := Lib.hid (by rw [HR.out]; rfl)
  have hbl := HLb.out.2
  have hbi : (b.names.length : Int) ≤ 140737488355328 := by omega
  clear HR
  obtain ⟨an, cn, aa, ca, rfl, rfl⟩ := ha.shape
  obtain ⟨bn, dn, bb, db, rfl, rfl⟩ := hb.shape
  have HAf : Hid (∀ W, Below (w.heap.size + 1 + 1) ((w.alloc (.cells #[.int .i64 a.kind, .slice an a.names.length cn, .slice aa a.args.length ca] 25)).alloc (.cells #[.int .i64 b.kind, .slice bn b.names.length dn, .slice bb b.args.length db] 25)) W → (W.cell? ⟨w.heap.size, 0, none⟩ = some (.int .i64 a.kind) ∧ W.cell? ⟨w.heap.size, 1, none⟩ = some (.slice an a.names.length cn) ∧ W.cell? ⟨w.heap.size, 2, none⟩ = some (.slice aa a.args.length ca) ∧ W.cell? ⟨w.heap.size + 1, 0, none⟩ = some (.int .i64 b.kind) ∧ W.cell? ⟨w.heap.size + 1, 1, none⟩ = some (.slice bn b.names.length dn) ∧ W.cell? ⟨w.heap.size + 1, 2, none⟩ = some (.slice bb b.args.length db) ∧ w.heap.size < W.heap.size ∧ w.heap.size + 1 < W.heap.size) ∧ Below w.heap.size w W) := Lib.hid (fun W h => by
    have g0 := hh0.below h (by omega)
    have g1 := hh1.below h (by omega)
    exact ⟨⟨g0.cell 0, g0.cell 1, g0.cell 2, g1.cell 0, g1.cell 1, g1.cell 2, g0.lt, g1.lt⟩, hbw.trans (h.mono (by omega))⟩)
  have HB0 : Hid (Below (w.heap.size + 1 + 1) ((w.alloc (.cells #[.int .i64 a.kind, .slice an a.names.length cn, .slice aa a.args.length ca] 25)).alloc (.cells #[.int .i64 b.kind, .slice bn b.names.length dn, .slice bb b.args.length db] 25)) ((w.alloc (.cells #[.int .i64 a.kind, .slice an a.names.length cn, .slice aa a.args.length ca] 25)).alloc (.cells #[.int .i64 b.kind, .slice bn b.names.length dn, .slice bb b.args.length db] 25))) := Lib.hid (Below.refl _ _)
  have HW0 := Lib.hid (HAf.out _ HB0.out).2
  have HSz : Hid (((w.alloc (.cells #[.int .i64 a.kind, .slice an a.names.length cn, .slice aa a.args.length ca] 25)).alloc (.cells #[.int .i64 b.kind, .slice bn b.names.length dn, .slice bb b.args.length db] 25)).heap.size = w.heap.size + 1 + 1) := Lib.hid hsz
  have HFx : Hid (∀ W W', Below (w.heap.size + 1 + 1) ((w.alloc (.cells #[.int .i64 a.kind, .slice an a.names.length cn, .slice aa a.args.length ca] 25)).alloc (.cells #[.int .i64 b.kind, .slice bn b.names.length dn, .slice bb b.args.length db] 25)) W → Below W.heap.size W W' → Below (w.heap.size + 1 + 1) ((w.alloc (.cells #[.int .i64 a.kind, .slice an a.names.length cn, .slice aa a.args.length ca] 25)).alloc (.cells #[.int .i64 b.kind, .slice bn b.names.length dn, .slice bb b.args.length db] 25)) W') := Lib.hid (fun W W' h1 h2 => h1.trans (h2.mono (by have := h1.size; rw [HSz.out] at this; exact this)))
  clear ha hb oka okb hva hvb hh0 hh1 hbw hsz ak bk
  go_enter Tryd.func34, Tryd.ntmps34
  go_wp2_with fail
  refine (HK5.out _ HW0.out).mono ?_
  rintro e w1 ⟨rfl, hb⟩
  have HB1 := Lib.hid (HFx.out _ _ HB0.out hb)
  obtain ⟨⟨x0, x1, x2, y0, y1, y2, lA, lB⟩, hw⟩ := HAf.out _ HB1.out
  have HW1 := Lib.hid hw
  clear hb hw
  go_wp2_with fail
  refine (HFa.out _ HW1.out).mono ?_
  rintro e w2 ⟨rfl, hb⟩
  have HB2 := Lib.hid (HFx.out _ _ HB1.out hb)
  clear x0 x1 x2 y0 y1 y2 lA lB
  obtain ⟨⟨x0, x1, x2, y0, y1, y2, lA, lB⟩, hw⟩ := HAf.out _ HB2.out
  have HW2 := Lib.hid hw
  clear hb hw
  go_wp2_with fail
  refine (HFb.out _ HW2.out).mono ?_
  rintro e w3 ⟨rfl, hb⟩
  have HB3 := Lib.hid (HFx.out _ _ HB2.out hb)
  clear x0 x1 x2 y0 y1 y2 lA lB
  obtain ⟨⟨x0, x1, x2, y0, y1, y2, lA, lB⟩, hw⟩ := HAf.out _ HB3.out
  have HW3 := Lib.hid hw
  clear hb hw
  go_wp2
  clear x0 x1 x2 y0 y1 y2 lA lB
  go_loopw [61] (fun i wr => ∃ j : Nat, i = .int .i64 (j : Int) ∧ j ≤ b.names.length ∧ Hid (Below (w.heap.size + 1 + 1) (((w.alloc (.cells #[.int .i64 a.kind, .slice an a.names.length cn, .slice aa a.args.length ca] 25)).alloc (.cells #[.int .i64 b.kind, .slice bn b.names.length dn, .slice bb b.args.length db] 25))) wr) ∧ Hid (R = ((b.names.drop j).zip (b.args.drop j)).all fun x => match look a x.1 with | none => false | some y => sameV y x.2)) (fun i _ => b.names.length - (intOf i).toNat)
  case atStart => exact ⟨0, rfl, by omega, HB3, HF⟩
  case round =>
    obtain ⟨j, rfl, hj, HB, HD⟩ := hrel
    obtain ⟨⟨x0, x1, x2, y0, y1, y2, lA, lB⟩, hw⟩ := HAf.out _ HB.out
    have HWr := Lib.hid hw
    clear hw
    by_cases hlt : j < b.names.length
    · have hi1 : (j : Int) < (b.names.length : Int) := by omega
      have hjt : j < b.args.length := by have := HLn.out; omega
      have hji : (j : Int) < (b.args.length : Int) := by omega
      have HD2 := Lib.hid (drop_all (f := fun x => match look a x.1 with | none => false | some y => sameV y x.2) hlt hjt)
      obtain ⟨bs, os, rfl, hbs, c0⟩ := (HNb.out _ HWr.out).at j hlt
      have HFx4 := Lib.hid (HFd2.out b.names[j] wr HWr.out)
      have HMm : Hid (∀ x, look a b.names[j] = some x → TyOk x) := Lib.hid (fun x h => HOa.out x (zip_mem2 (look_mem h)).2)
      obtain ⟨lk, hlk⟩ : ∃ lk, look a b.names[j] = lk := ⟨_, rfl⟩
      rw [hlk] at HFx4 HMm
      have HLk := Lib.hid hlk
      have HDj : Hid (R = (lkB lk b.args[j] && ((b.names.drop (j + 1)).zip (b.args.drop (j + 1))).all fun x => match look a x.1 with | none => false | some y => sameV y x.2)) := Lib.hid (by rw [HD.out, HD2.out, ← hlk]; rfl)
      clear hlk HD HD2 HLk
      generalize b.names[j] = s at c0 HFx4
      go_wp2_with fail
      refine (HFx4.out).mono ?_
      intro e w4 hfi
      cases hfi with
      | yes x vn4 va4 _ hx hb4 =>
        obtain ⟨xn, xc, xa, xd, rfl, rfl⟩ := hx.shape
        have HB4 := Lib.hid (HFx.out _ _ HB.out hb4)
        have hb5 : Below w4.heap.size w4 (w4.alloc (.cells #[.int .i64 x.kind, .slice xn x.names.length xc, .slice xa x.args.length xd] 25)) := (Below.refl _ w4).alloc (Nat.le_refl _) _
        have HB5 := Lib.hid (HFx.out _ _ HB4.out hb5)
        have h8 := (Has.new w4 25 [.int .i64 x.kind, .slice xn x.names.length xc, .slice xa x.args.length xd])
        have hx5 := hx.frame (Nat.le_refl _) hb5
        clear hx hb4 x0 x1 x2 y0 y1 y2 lA lB c0 HFx4
        obtain ⟨⟨x0, x1, x2, y0, y1, y2, lA, lB⟩, hw5⟩ := HAf.out _ HB5.out
        have HW5 := Lib.hid hw5
        have HOx := Lib.hid (HMm.out x rfl)
        obtain ⟨b4, o4, un4, ub4, rfl, hbb, d0, d1, d2, d3⟩ := HAb.out.at_base hw5 j hjt
        have HSa := Lib.hid (refSame_any x b.args[j] _ _ _ _ (w4.alloc (.cells #[.int .i64 x.kind, .slice xn x.names.length xc, .slice xa x.args.length xd] 25)).drew HOx.out (HOb.out _ (List.getElem_mem hjt)) (hx5.frame (Nat.le_refl _) (Below.refl _ _).drew) (d3.frame (Nat.le_refl _) hw5.drew))
        obtain ⟨bn2, dn2, bb2, db2, rfl, rfl⟩ := d3.shape
        generalize b.args[j] = y at HDj d0 d1 d2 d3 HSa
        obtain ⟨z, hz⟩ : ∃ z, sameV x y = z := ⟨_, rfl⟩
        have HD3 : Hid (R = (z && ((b.names.drop (j + 1)).zip (b.args.drop (j + 1))).all fun x => match look a x.1 with | none => false | some y => sameV y x.2)) := Lib.hid (by rw [HDj.out, ← hz]; rfl)
        rw [hz] at HSa
        have H8 := Lib.hid h8
        clear d3 hz HDj hx5 hw5 h8 hb5
        go_wp2
        change Code.wp _ _ _ _ (World.alloc w4 _)
        generalize World.alloc w4 (.cells #[.int .i64 x.kind, .slice xn x.names.length xc, .slice xa x.args.length xd] 25) = w5 at *
        generalize w4.heap.size = B4 at *
        have g0 := H8.out.cell 0
        have g1 := H8.out.cell 1
        have g2 := H8.out.cell 2
        have gl := H8.out.lt
        simp at g0 g1 g2
        go_still_tail 9, (by kernel_rfl)
        change wpList _ _ _ _ _ w5.drew
        go_wp2_with fail
        refine (HSa.out).mono ?_
        rintro e w6 ⟨rfl, hb6⟩
        have HB6 := Lib.hid (HFx.out _ _ HB5.out ((Below.refl _ _).drew.trans hb6))
        have HB6r := Lib.hid (HAf.out _ HB6.out).2
        clear hb6
        cases z
        · have HF3 : Hid (R = false) := Lib.hid (by rw [HD3.out]; rfl)
          obtain rfl := HF3.out
          clear HD3 HF
          go_wp2
          go_ret
          exact ⟨rfl, HB6r.out⟩
        · have HD4 : Hid (R = ((b.names.drop (j + 1)).zip (b.args.drop (j + 1))).all fun x => match look a x.1 with | none => false | some y => sameV y x.2) := Lib.hid (by rw [HD3.out]; rfl)
          clear HD3
          go_wp2
          go_roundw
          case rel => exact ⟨j + 1, by go_num, by omega, HB6, HD4⟩
          case measure => simp [intOf]; omega
      | no _ hb4 =>
        have HB4 := Lib.hid (HFx.out _ _ HB.out hb4)
        have hb5 : Below w4.heap.size w4 (w4.alloc (.cells #[.int .i64 0, .slice none 0 0, .slice none 0 0] 25)) := (Below.refl _ w4).alloc (Nat.le_refl _) _
        have HB5 := Lib.hid (HFx.out _ _ HB4.out hb5)
        have HW5 := Lib.hid (HAf.out _ HB5.out).2
        have HF2 : Hid (R = false) := Lib.hid (by rw [HDj.out]; rfl)
        obtain rfl := HF2.out
        clear HDj HF hb5
        go_wp2
        go_quiet (fail)
        go_wp2
        go_ret
        exact ⟨rfl, drewN_below HW5.out _⟩
    · have hjm : b.names.length = j := by omega
      have HF2 : Hid (R = true) := Lib.hid (by rw [HD.out, List.drop_eq_nil_of_le (by omega)]; rfl)
      obtain rfl := HF2.out
      have hi1 : ¬ (j : Int) < (b.names.length : Int) := by omega
      clear HD HF
      go_wp2
      go_ret
      exact ⟨rfl, HWr.out⟩
end TyD
end Go.Proofs.YtjddjiggelpdnaaDoor
