/- Ease: the document's, of two shapes. -/
import Derived.Test.YtjddjiggelpdnaaDoorTyRSub
import Derived.Deep.RegionHeld3
namespace Go.Proofs.YtjddjiggelpdnaaDoor
open Go.RowKit ObjM
namespace TyD
open LexD (nameB WTab)

def lkE (o : Option Ty) (y : Ty) : Bool := match o with | none => false | some x => suitsE x y
set_option maxRecDepth 100000 in
set_option maxHeartbeats 32000000 in
theorem rease88 (r : Nat) (a b : Ty) (vn va un ua : Value) (w : World) (ak : a.kind = 8) (bk : b.kind = 8) (hs : subB (r + 1) a b = false) (hva : Ok (r + 1) a) (hvb : Ok (r + 1) b) (oka : TyOk a) (okb : TyOk b) (ha : TyAt w vn va a) (hb : TyAt w un ua b) :
    Calls Tryd.prog 36 #[.agg #[.int .i64 a.kind, vn, va], .agg #[.int .i64 b.kind, un, ua]] w (BoolB w (easeB (r + 1) a b)) := by
  obtain ⟨hh0, hh1, hbw, hsz⟩ := box2 w [.int .i64 a.kind, vn, va] [.int .i64 b.kind, un, ua] 25 _ rfl
  have HTa := Lib.hid (fun (W : World) (h : Below w.heap.size w W) => ha.frame (Nat.le_refl _) h)
  have HTb := Lib.hid (fun (W : World) (h : Below w.heap.size w W) => hb.frame (Nat.le_refl _) h)
  have HSu := Lib.hid (fun (W : World) (h : Below w.heap.size w W) => refSub_any (r + 1) a b vn va un ua W hva hvb oka okb (HTa.out _ h) (HTb.out _ h))
  rw [hs] at HSu
  have HR : Hid (easeB (r + 1) a b = fieldsB suitsE a b) := Lib.hid (by rw [easeB, if_neg (by omega), if_neg (by omega), if_pos ⟨ak, bk⟩])
  have HNb := Lib.hid (fun (W : World) (h : Below w.heap.size w W) => (show StrsAt W un b.names by obtain ⟨k, ns, ts⟩ := b; exact (hb.frame (Nat.le_refl _) h).parts.1))
  have HAb := Lib.hid (show TysAt w ua b.args by obtain ⟨k, ns, ts⟩ := b; exact hb.parts.2)
  have HFd2 := Lib.hid (fun (s : ByteArray) (W : World) (h : Below w.heap.size w W) => field_any a s vn va W oka (HTa.out _ h) (hva.shape ak).1)
  have HLn := Lib.hid (hvb.shape bk).1
  have HOa := Lib.hid (okArg oka)
  have HOb := Lib.hid (okArg okb)
  have HLb : Hid (b.args.length ≤ 140737488355328 ∧ b.names.length ≤ 140737488355328) := Lib.hid (by obtain ⟨k, ns, ts⟩ := b; exact ⟨okb.parts.2.2.2.1, okb.parts.2.1⟩)
  obtain ⟨R, hR⟩ : ∃ R, easeB (r + 1) a b = R := ⟨_, rfl⟩
  rw [hR] at HR ⊢
  clear hR
  have e1 : (b.kind == 0) = false := by simp; omega
  have e0 : (a.kind == 0) = false := by simp; omega
  have e5 : (a.kind == 5) = false := by simp; omega
  have e8 : (a.kind == 8) = true := by simpa using ak
  have f8 : (b.kind == 8) = true := by simpa using bk
  have HF : Hid (R = ((b.names.drop 0).zip (b.args.drop 0)).all fun x => match look a x.1 with | none => false | some y => suitsE y x.2) := Lib.hid (by rw [HR.out]; rfl)
  have hbl := HLb.out.2
  have hbi : (b.names.length : Int) ≤ 140737488355328 := by omega
  clear HR
  obtain ⟨an, cn, aa, ca, rfl, rfl⟩ := ha.shape
  obtain ⟨bn, dn, bb, db, rfl, rfl⟩ := hb.shape
  have HAf : Hid (∀ W, Below (w.heap.size + 1 + 1) ((w.alloc (.cells #[.int .i64 a.kind, .slice an a.names.length cn, .slice aa a.args.length ca] 25)).alloc (.cells #[.int .i64 b.kind, .slice bn b.names.length dn, .slice bb b.args.length db] 25)) W → (W.cell? ⟨w.heap.size, 0, none⟩ = some (.int .i64 a.kind) ∧ W.cell? ⟨w.heap.size, 1, none⟩ = some (.slice an a.names.length cn) ∧ W.cell? ⟨w.heap.size, 2, none⟩ = some (.slice aa a.args.length ca) ∧ W.cell? ⟨w.heap.size + 1, 0, none⟩ = some (.int .i64 b.kind) ∧ W.cell? ⟨w.heap.size + 1, 1, none⟩ = some (.slice bn b.names.length dn) ∧ W.cell? ⟨w.heap.size + 1, 2, none⟩ = some (.slice bb b.args.length db) ∧ w.heap.size < W.heap.size ∧ w.heap.size + 1 < W.heap.size) ∧ Below w.heap.size w W) := Lib.hid (fun W h => by
    have g0 := hh0.below h (by omega)
    have g1 := hh1.below h (by omega)
    exact ⟨⟨g0.cell 0, g0.cell 1, g0.cell 2, g1.cell 0, g1.cell 1, g1.cell 2, g0.lt, g1.lt⟩, hbw.trans (h.mono (by omega))⟩)
  have HB0 : Hid (Below (w.heap.size + 1 + 1) ((w.alloc (.cells #[.int .i64 a.kind, .slice an a.names.length cn, .slice aa a.args.length ca] 25)).alloc (.cells #[.int .i64 b.kind, .slice bn b.names.length dn, .slice bb b.args.length db] 25)) ((w.alloc (.cells #[.int .i64 a.kind, .slice an a.names.length cn, .slice aa a.args.length ca] 25)).alloc (.cells #[.int .i64 b.kind, .slice bn b.names.length dn, .slice bb b.args.length db] 25))) := Lib.hid (Below.refl _ _)
  have HW0 := Lib.hid (HAf.out _ HB0.out).2
  have HSz : Hid (((w.alloc (.cells #[.int .i64 a.kind, .slice an a.names.length cn, .slice aa a.args.length ca] 25)).alloc (.cells #[.int .i64 b.kind, .slice bn b.names.length dn, .slice bb b.args.length db] 25)).heap.size = w.heap.size + 1 + 1) := Lib.hid hsz
  have HFx : Hid (∀ W W', Below (w.heap.size + 1 + 1) ((w.alloc (.cells #[.int .i64 a.kind, .slice an a.names.length cn, .slice aa a.args.length ca] 25)).alloc (.cells #[.int .i64 b.kind, .slice bn b.names.length dn, .slice bb b.args.length db] 25)) W → Below W.heap.size W W' → Below (w.heap.size + 1 + 1) ((w.alloc (.cells #[.int .i64 a.kind, .slice an a.names.length cn, .slice aa a.args.length ca] 25)).alloc (.cells #[.int .i64 b.kind, .slice bn b.names.length dn, .slice bb b.args.length db] 25)) W') := Lib.hid (fun W W' h1 h2 => h1.trans (h2.mono (by have := h1.size; rw [HSz.out] at this; exact this)))
  clear ha hb oka okb hva hvb hh0 hh1 hbw hsz ak bk hs
  go_enter Tryd.func36, Tryd.ntmps36
  go_wp2_with fail
  refine (HSu.out _ HW0.out).mono ?_
  rintro e w1 ⟨rfl, hb⟩
  have HB1 := Lib.hid (HFx.out _ _ HB0.out hb)
  obtain ⟨⟨x0, x1, x2, y0, y1, y2, lA, lB⟩, hw⟩ := HAf.out _ HB1.out
  have HW1 := Lib.hid hw
  clear hb hw
  go_wp2
  clear x0 x1 x2 y0 y1 y2 lA lB
  go_loopw [46] (fun i wr => ∃ j : Nat, i = .int .i64 (j : Int) ∧ j ≤ b.names.length ∧ Hid (Below (w.heap.size + 1 + 1) (((w.alloc (.cells #[.int .i64 a.kind, .slice an a.names.length cn, .slice aa a.args.length ca] 25)).alloc (.cells #[.int .i64 b.kind, .slice bn b.names.length dn, .slice bb b.args.length db] 25))) wr) ∧ Hid (R = ((b.names.drop j).zip (b.args.drop j)).all fun x => match look a x.1 with | none => false | some y => suitsE y x.2)) (fun i _ => b.names.length - (intOf i).toNat)
  case atStart => exact ⟨0, rfl, by omega, HB1, HF⟩
  case round =>
    obtain ⟨j, rfl, hj, HB, HD⟩ := hrel
    obtain ⟨⟨x0, x1, x2, y0, y1, y2, lA, lB⟩, hw⟩ := HAf.out _ HB.out
    have HWr := Lib.hid hw
    clear hw
    by_cases hlt : j < b.names.length
    · have hi1 : (j : Int) < (b.names.length : Int) := by omega
      have hjt : j < b.args.length := by have := HLn.out; omega
      have hji : (j : Int) < (b.args.length : Int) := by omega
      have HD2 := Lib.hid (drop_all (f := fun x => match look a x.1 with | none => false | some y => suitsE y x.2) hlt hjt)
      obtain ⟨bs, os, rfl, hbs, c0⟩ := (HNb.out _ HWr.out).at j hlt
      have HFx4 := Lib.hid (HFd2.out b.names[j] wr HWr.out)
      have HMm : Hid (∀ x, look a b.names[j] = some x → TyOk x) := Lib.hid (fun x h => HOa.out x (zip_mem2 (look_mem h)).2)
      obtain ⟨lk, hlk⟩ : ∃ lk, look a b.names[j] = lk := ⟨_, rfl⟩
      rw [hlk] at HFx4 HMm
      have HLk := Lib.hid hlk
      have HDj : Hid (R = (lkE lk b.args[j] && ((b.names.drop (j + 1)).zip (b.args.drop (j + 1))).all fun x => match look a x.1 with | none => false | some y => suitsE y x.2)) := Lib.hid (by rw [HD.out, HD2.out, ← hlk]; rfl)
      clear hlk HD HD2 HLk
      generalize b.names[j] = s at c0 HFx4
      go_wp2_with fail
      refine (HFx4.out).mono ?_
      intro e w4 hfi
      cases hfi with
      | yes x vn4 va4 _ hx hb4 =>
        obtain ⟨xn, xc, xa, xd, rfl, rfl⟩ := hx.shape
        have HB4 := Lib.hid (HFx.out _ _ HB.out hb4)
        have hb5 : Below w4.heap.size w4 (w4.alloc (.cells #[.int .i64 x.kind, .slice xn x.names.length xc, .slice xa x.args.length xd] 25)) := (Below.refl _ w4).alloc (Nat.le_refl _) _
        have HB5 := Lib.hid (HFx.out _ _ HB4.out hb5)
        have h8 := (Has.new w4 25 [.int .i64 x.kind, .slice xn x.names.length xc, .slice xa x.args.length xd])
        have hx5 := hx.frame (Nat.le_refl _) hb5
        clear hx hb4 x0 x1 x2 y0 y1 y2 lA lB c0 HFx4
        obtain ⟨⟨x0, x1, x2, y0, y1, y2, lA, lB⟩, hw5⟩ := HAf.out _ HB5.out
        have HW5 := Lib.hid hw5
        have HOx := Lib.hid (HMm.out x rfl)
        obtain ⟨b4, o4, un4, ub4, rfl, hbb, d0, d1, d2, d3⟩ := HAb.out.at_base hw5 j hjt
        have HSa := Lib.hid (refSame_any x b.args[j] _ _ _ _ (w4.alloc (.cells #[.int .i64 x.kind, .slice xn x.names.length xc, .slice xa x.args.length xd] 25)).drew HOx.out (HOb.out _ (List.getElem_mem hjt)) (hx5.frame (Nat.le_refl _) (Below.refl _ _).drew) (d3.frame (Nat.le_refl _) hw5.drew))
        obtain ⟨bn2, dn2, bb2, db2, rfl, rfl⟩ := d3.shape
        generalize b.args[j] = y at HDj d0 d1 d2 d3 HSa
        have HD3 : Hid (R = (suitsE x y && ((b.names.drop (j + 1)).zip (b.args.drop (j + 1))).all fun x => match look a x.1 with | none => false | some y => suitsE y x.2)) := Lib.hid (by rw [HDj.out]; rfl)
        obtain ⟨z, hz⟩ : ∃ z, sameV x y = z := ⟨_, rfl⟩
        have HSE : Hid (suitsE x y = (decide (x.kind = 0) || decide (y.kind = 0) || z)) := Lib.hid (by rw [← hz]; rfl)
        rw [hz] at HSa
        have H8 := Lib.hid h8
        have hd0 := Lib.hid (⟨d0, d1, d2⟩ : _ ∧ _ ∧ _)
        clear d3 hz HDj hx5 hw5 h8 hb5
        go_wp2
        change Code.wp _ _ _ _ (World.alloc w4 _)
        generalize World.alloc w4 (.cells #[.int .i64 x.kind, .slice xn x.names.length xc, .slice xa x.args.length xd] 25) = w5 at *
        generalize w4.heap.size = B4 at *
        have HS : Hid (∀ W, Below w5.heap.size w5 W → (fun W' => W'.cell? ⟨B4, 0, none⟩ = some (.int .i64 x.kind) ∧ W'.cell? ⟨B4, 1, none⟩ = some (.slice xn x.names.length xc) ∧ W'.cell? ⟨B4, 2, none⟩ = some (.slice xa x.args.length xd) ∧ W'.cell? ⟨w.heap.size + 1, 2, none⟩ = some (.slice (some ⟨b4, o4, none⟩) b.args.length db) ∧ W'.cell? ⟨b4, o4 + j * 3, none⟩ = some (.int .i64 y.kind) ∧ W'.cell? ⟨b4, o4 + j * 3 + 1, none⟩ = some (.slice bn2 y.names.length dn2) ∧ W'.cell? ⟨b4, o4 + j * 3 + 2, none⟩ = some (.slice bb2 y.args.length db2)) W ∧ Below w.heap.size w W) := Lib.hid (fun W h => by
          obtain ⟨⟨g0, g1, g2, g3, g4, g5, g6, g7⟩, g8⟩ := HAf.out W (HFx.out _ _ HB5.out h)
          have q := H8.out.below h H8.out.lt
          exact ⟨⟨q.cell 0, q.cell 1, q.cell 2, g5, (h.cell (p := ⟨b4, _, none⟩) hbb).trans hd0.out.1, (h.cell (p := ⟨b4, _, none⟩) hbb).trans hd0.out.2.1, (h.cell (p := ⟨b4, _, none⟩) hbb).trans hd0.out.2.2⟩, g8⟩)
        have HBt := Lib.hid (fun (W : World) (h : Below w5.heap.size w5 W) => HFx.out _ _ HB5.out h)
        clear x0 x1 x2 y0 y1 y2 lA lB d0 d1 d2
        cases z
        · by_cases hx0 : x.kind = 0
          · have hxb : (x.kind != 0) = false := by simpa using hx0
            have HD4 : Hid (R = ((b.names.drop (j + 1)).zip (b.args.drop (j + 1))).all fun x => match look a x.1 with | none => false | some y => suitsE y x.2) := Lib.hid (by rw [HD3.out, HSE.out, decide_eq_true hx0]; rfl)
            clear HD3 HSE hx0
            refine wp_region_held_drew (S := fun W' => W'.cell? ⟨B4, 0, none⟩ = some (.int .i64 x.kind) ∧ W'.cell? ⟨B4, 1, none⟩ = some (.slice xn x.names.length xc) ∧ W'.cell? ⟨B4, 2, none⟩ = some (.slice xa x.args.length xd) ∧ W'.cell? ⟨w.heap.size + 1, 2, none⟩ = some (.slice (some ⟨b4, o4, none⟩) b.args.length db) ∧ W'.cell? ⟨b4, o4 + j * 3, none⟩ = some (.int .i64 y.kind) ∧ W'.cell? ⟨b4, o4 + j * 3 + 1, none⟩ = some (.slice bn2 y.names.length dn2) ∧ W'.cell? ⟨b4, o4 + j * 3 + 2, none⟩ = some (.slice bb2 y.args.length db2)) (by kernel_rfl) (HS.out _ (Below.refl _ _).drew).1 (fun _ => ?_)
            refine wpAnyH_take (i := 0) (oi := { dst := some 57, op := Op.move (.tmp 8), type := _, pos := _, after := _, guard := _ }) (v := .bool true) rfl (by kernel_rfl) (by kernel_rfl) (by kernel_rfl) (fun _ _ _ h => h) (Or.inl ⟨by rfl, ?_⟩) (HS.out _ (Below.refl _ _).drew).1 ?_
            · intro w' hs
              obtain ⟨c0, c1, c2, c3, c4, c5, c6⟩ := hs
              go_simp
            try simp only [Act.put, List.setIfInBounds_toArray, List.set_cons_zero, List.set_cons_succ]
            refine wpAnyH_take (i := 1) (oi := { dst := some 58, op := Op.unOp .not 4 (.tmp 57), type := _, pos := _, after := _, guard := _ }) (v := .bool false) rfl (by kernel_rfl) (by kernel_rfl) (by kernel_rfl) (fun _ _ _ h => h) (Or.inl ⟨by rfl, ?_⟩) (HS.out _ (Below.refl _ _).drew).1 ?_
            · intro w' hs
              obtain ⟨c0, c1, c2, c3, c4, c5, c6⟩ := hs
              go_simp
            try simp only [Act.put, List.setIfInBounds_toArray, List.set_cons_zero, List.set_cons_succ]
            refine wpAnyH_take (i := 2) (oi := { dst := some 59, op := Op.move (.tmp 58), type := _, pos := _, after := _, guard := _ }) (v := .bool false) rfl (by kernel_rfl) (by kernel_rfl) (by kernel_rfl) (fun _ _ _ h => h) (Or.inl ⟨by rfl, ?_⟩) (HS.out _ (Below.refl _ _).drew).1 ?_
            · intro w' hs
              obtain ⟨c0, c1, c2, c3, c4, c5, c6⟩ := hs
              go_simp
            try simp only [Act.put, List.setIfInBounds_toArray, List.set_cons_zero, List.set_cons_succ]
            refine wpAnyH_take (i := 3) (oi := { dst := some 60, op := Op.load 25 (.tmp 7), type := _, pos := _, after := _, guard := _ }) (v := .agg #[.int .i64 x.kind, .slice xn x.names.length xc, .slice xa x.args.length xd]) rfl (by kernel_rfl) (by kernel_rfl) (by kernel_rfl) (fun _ _ _ h => h) (Or.inl ⟨by rfl, ?_⟩) (HS.out _ (Below.refl _ _).drew).1 ?_
            · intro w' hs
              obtain ⟨c0, c1, c2, c3, c4, c5, c6⟩ := hs
              go_simp
            try simp only [Act.put, List.setIfInBounds_toArray, List.set_cons_zero, List.set_cons_succ]
            refine wpAnyH_take (i := 4) (oi := { dst := some 61, op := Op.fieldAddr 25 (.tmp 3) 2, type := _, pos := _, after := _, guard := _ }) (v := .pointer (some ⟨w.heap.size + 1, 2, none⟩)) rfl (by kernel_rfl) (by kernel_rfl) (by kernel_rfl) (fun _ _ _ h => h) (Or.inl ⟨by rfl, ?_⟩) (HS.out _ (Below.refl _ _).drew).1 ?_
            · intro w' hs
              obtain ⟨c0, c1, c2, c3, c4, c5, c6⟩ := hs
              go_simp
            try simp only [Act.put, List.setIfInBounds_toArray, List.set_cons_zero, List.set_cons_succ]
            refine wpAnyH_take (i := 5) (oi := { dst := some 62, op := Op.load 23 (.tmp 61), type := _, pos := _, after := _, guard := _ }) (v := .slice (some ⟨b4, o4, none⟩) b.args.length db) rfl (by kernel_rfl) (by kernel_rfl) (by kernel_rfl) (fun _ _ _ h => h) (Or.inl ⟨by rfl, ?_⟩) (HS.out _ (Below.refl _ _).drew).1 ?_
            · intro w' hs
              obtain ⟨c0, c1, c2, c3, c4, c5, c6⟩ := hs
              go_simp
            try simp only [Act.put, List.setIfInBounds_toArray, List.set_cons_zero, List.set_cons_succ]
            refine wpAnyH_take (i := 6) (oi := { dst := some 63, op := Op.move (.tmp 5), type := _, pos := _, after := _, guard := _ }) (v := .int .i64 (j : Int)) rfl (by kernel_rfl) (by kernel_rfl) (by kernel_rfl) (fun _ _ _ h => h) (Or.inl ⟨by rfl, ?_⟩) (HS.out _ (Below.refl _ _).drew).1 ?_
            · intro w' hs
              obtain ⟨c0, c1, c2, c3, c4, c5, c6⟩ := hs
              go_simp
            try simp only [Act.put, List.setIfInBounds_toArray, List.set_cons_zero, List.set_cons_succ]
            refine wpAnyH_take (i := 7) (oi := { dst := some 64, op := Op.indexAddr 23 (.tmp 62) (.tmp 63), type := _, pos := _, after := _, guard := _ }) (v := .pointer (some ⟨b4, o4 + j * 3, none⟩)) rfl (by kernel_rfl) (by kernel_rfl) (by kernel_rfl) (fun _ _ _ h => h) (Or.inl ⟨by rfl, ?_⟩) (HS.out _ (Below.refl _ _).drew).1 ?_
            · intro w' hs
              obtain ⟨c0, c1, c2, c3, c4, c5, c6⟩ := hs
              go_simp
            try simp only [Act.put, List.setIfInBounds_toArray, List.set_cons_zero, List.set_cons_succ]
            refine wpAnyH_take (i := 8) (oi := { dst := some 65, op := Op.load 25 (.tmp 64), type := _, pos := _, after := _, guard := _ }) (v := .agg #[.int .i64 y.kind, .slice bn2 y.names.length dn2, .slice bb2 y.args.length db2]) rfl (by kernel_rfl) (by kernel_rfl) (by kernel_rfl) (fun _ _ _ h => h) (Or.inl ⟨by rfl, ?_⟩) (HS.out _ (Below.refl _ _).drew).1 ?_
            · intro w' hs
              obtain ⟨c0, c1, c2, c3, c4, c5, c6⟩ := hs
              go_simp
            try simp only [Act.put, List.setIfInBounds_toArray, List.set_cons_zero, List.set_cons_succ]
            refine wpAnyH_ready (rs := [9]) (by kernel_rfl) (by simp) ?_
            refine AllReadyH.cons (o := { dst := some 66, op := Op.call { callee := .value (.func 23), args := #[.tmp 60, .tmp 65], argTypes := _ }, type := _, pos := _, after := _, guard := _ }) rfl (fun K hK => ?_) AllReadyH.nil
            go_simp
            refine (HSa.out).mono ?_
            rintro e w6 ⟨rfl, hb6⟩
            have p1 : Below w5.heap.size w5 w6 := ((Below.refl w5.heap.size w5).drew).trans hb6
            refine hK.out _ _ (HS.out _ p1).1 (fun _ => ?_)
            clear hK K hb6
            try simp only [Act.put, List.setIfInBounds_toArray, List.set_cons_zero, List.set_cons_succ]
            refine wpAnyH_take (i := 10) (oi := { dst := some 67, op := Op.unOp .not 4 (.tmp 66), type := _, pos := _, after := _, guard := _ }) (v := .bool true) rfl (by kernel_rfl) (by kernel_rfl) (by kernel_rfl) (fun _ _ _ h => h) (Or.inl ⟨by rfl, ?_⟩) (HS.out _ p1).1 ?_
            · intro w' hs
              obtain ⟨c0, c1, c2, c3, c4, c5, c6⟩ := hs
              go_simp
            try simp only [Act.put, List.setIfInBounds_toArray, List.set_cons_zero, List.set_cons_succ]
            refine wpAnyH_take (i := 11) (oi := { dst := some 68, op := Op.move (.tmp 67), type := _, pos := _, after := _, guard := _ }) (v := .bool true) rfl (by kernel_rfl) (by kernel_rfl) (by kernel_rfl) (fun _ _ _ h => h) (Or.inl ⟨by rfl, ?_⟩) (HS.out _ p1).1 ?_
            · intro w' hs
              obtain ⟨c0, c1, c2, c3, c4, c5, c6⟩ := hs
              go_simp
            try simp only [Act.put, List.setIfInBounds_toArray, List.set_cons_zero, List.set_cons_succ]
            refine wpAnyH_take (i := 12) (oi := { dst := some 69, op := Op.fieldAddr 25 (.tmp 7) 0, type := _, pos := _, after := _, guard := _ }) (v := .pointer (some ⟨B4, 0, none⟩)) rfl (by kernel_rfl) (by kernel_rfl) (by kernel_rfl) (fun _ _ _ h => h) (Or.inl ⟨by rfl, ?_⟩) (HS.out _ p1).1 ?_
            · intro w' hs
              obtain ⟨c0, c1, c2, c3, c4, c5, c6⟩ := hs
              go_simp
            try simp only [Act.put, List.setIfInBounds_toArray, List.set_cons_zero, List.set_cons_succ]
            refine wpAnyH_take (i := 13) (oi := { dst := some 70, op := Op.load 3 (.tmp 69), type := _, pos := _, after := _, guard := _ }) (v := .int .i64 x.kind) rfl (by kernel_rfl) (by kernel_rfl) (by kernel_rfl) (fun _ _ _ h => h) (Or.inl ⟨by rfl, ?_⟩) (HS.out _ p1).1 ?_
            · intro w' hs
              obtain ⟨c0, c1, c2, c3, c4, c5, c6⟩ := hs
              go_simp
            try simp only [Act.put, List.setIfInBounds_toArray, List.set_cons_zero, List.set_cons_succ]
            refine wpAnyH_take (i := 14) (oi := { dst := some 71, op := Op.binOp .neq 3 (.tmp 70) (.const (.int .i64 0)) 3, type := _, pos := _, after := _, guard := _ }) (v := .bool false) rfl (by kernel_rfl) (by kernel_rfl) (by kernel_rfl) (fun _ _ _ h => h) (Or.inl ⟨by rfl, ?_⟩) (HS.out _ p1).1 ?_
            · intro w' hs
              obtain ⟨c0, c1, c2, c3, c4, c5, c6⟩ := hs
              go_simp
            try simp only [Act.put, List.setIfInBounds_toArray, List.set_cons_zero, List.set_cons_succ]
            refine wpAnyH_take (i := 15) (oi := { dst := some 72, op := Op.pick (.tmp 68) (.tmp 71) (.const (.bool false)), type := _, pos := _, after := _, guard := _ }) (v := .bool false) rfl (by kernel_rfl) (by kernel_rfl) (by kernel_rfl) (fun _ _ _ h => h) (Or.inl ⟨by rfl, ?_⟩) (HS.out _ p1).1 ?_
            · intro w' hs
              obtain ⟨c0, c1, c2, c3, c4, c5, c6⟩ := hs
              go_simp
            try simp only [Act.put, List.setIfInBounds_toArray, List.set_cons_zero, List.set_cons_succ]
            refine wpAnyH_take (i := 16) (oi := { dst := some 73, op := Op.move (.tmp 72), type := _, pos := _, after := _, guard := _ }) (v := .bool false) rfl (by kernel_rfl) (by kernel_rfl) (by kernel_rfl) (fun _ _ _ h => h) (Or.inl ⟨by rfl, ?_⟩) (HS.out _ p1).1 ?_
            · intro w' hs
              obtain ⟨c0, c1, c2, c3, c4, c5, c6⟩ := hs
              go_simp
            try simp only [Act.put, List.setIfInBounds_toArray, List.set_cons_zero, List.set_cons_succ]
            refine wpAnyH_take (i := 17) (oi := { dst := some 74, op := Op.fieldAddr 25 (.tmp 3) 2, type := _, pos := _, after := _, guard := _ }) (v := undef) rfl (by kernel_rfl) (by kernel_rfl) (by kernel_rfl) (fun _ _ _ h => h) (Or.inr ⟨by rfl, rfl⟩) (HS.out _ p1).1 ?_
            try simp only [Act.put, List.setIfInBounds_toArray, List.set_cons_zero, List.set_cons_succ]
            refine wpAnyH_take (i := 18) (oi := { dst := some 75, op := Op.load 23 (.tmp 74), type := _, pos := _, after := _, guard := _ }) (v := undef) rfl (by kernel_rfl) (by kernel_rfl) (by kernel_rfl) (fun _ _ _ h => h) (Or.inr ⟨by rfl, rfl⟩) (HS.out _ p1).1 ?_
            try simp only [Act.put, List.setIfInBounds_toArray, List.set_cons_zero, List.set_cons_succ]
            refine wpAnyH_take (i := 19) (oi := { dst := some 76, op := Op.move (.tmp 5), type := _, pos := _, after := _, guard := _ }) (v := undef) rfl (by kernel_rfl) (by kernel_rfl) (by kernel_rfl) (fun _ _ _ h => h) (Or.inr ⟨by rfl, rfl⟩) (HS.out _ p1).1 ?_
            try simp only [Act.put, List.setIfInBounds_toArray, List.set_cons_zero, List.set_cons_succ]
            refine wpAnyH_take (i := 20) (oi := { dst := some 77, op := Op.indexAddr 23 (.tmp 75) (.tmp 76), type := _, pos := _, after := _, guard := _ }) (v := undef) rfl (by kernel_rfl) (by kernel_rfl) (by kernel_rfl) (fun _ _ _ h => h) (Or.inr ⟨by rfl, rfl⟩) (HS.out _ p1).1 ?_
            try simp only [Act.put, List.setIfInBounds_toArray, List.set_cons_zero, List.set_cons_succ]
            refine wpAnyH_take (i := 21) (oi := { dst := some 78, op := Op.fieldAddr 25 (.tmp 77) 0, type := _, pos := _, after := _, guard := _ }) (v := undef) rfl (by kernel_rfl) (by kernel_rfl) (by kernel_rfl) (fun _ _ _ h => h) (Or.inr ⟨by rfl, rfl⟩) (HS.out _ p1).1 ?_
            try simp only [Act.put, List.setIfInBounds_toArray, List.set_cons_zero, List.set_cons_succ]
            refine wpAnyH_take (i := 22) (oi := { dst := some 79, op := Op.load 3 (.tmp 78), type := _, pos := _, after := _, guard := _ }) (v := undef) rfl (by kernel_rfl) (by kernel_rfl) (by kernel_rfl) (fun _ _ _ h => h) (Or.inr ⟨by rfl, rfl⟩) (HS.out _ p1).1 ?_
            try simp only [Act.put, List.setIfInBounds_toArray, List.set_cons_zero, List.set_cons_succ]
            refine wpAnyH_take (i := 23) (oi := { dst := some 80, op := Op.binOp .neq 3 (.tmp 79) (.const (.int .i64 0)) 3, type := _, pos := _, after := _, guard := _ }) (v := undef) rfl (by kernel_rfl) (by kernel_rfl) (by kernel_rfl) (fun _ _ _ h => h) (Or.inr ⟨by rfl, rfl⟩) (HS.out _ p1).1 ?_
            try simp only [Act.put, List.setIfInBounds_toArray, List.set_cons_zero, List.set_cons_succ]
            refine wpAnyH_take (i := 24) (oi := { dst := some 81, op := Op.pick (.tmp 73) (.tmp 80) (.const (.bool false)), type := _, pos := _, after := _, guard := _ }) (v := .bool false) rfl (by kernel_rfl) (by kernel_rfl) (by kernel_rfl) (fun _ _ _ h => h) (Or.inl ⟨by rfl, ?_⟩) (HS.out _ p1).1 ?_
            · intro w' hs
              obtain ⟨c0, c1, c2, c3, c4, c5, c6⟩ := hs
              go_simp
            try simp only [Act.put, List.setIfInBounds_toArray, List.set_cons_zero, List.set_cons_succ]
            refine wpAnyH_take (i := 25) (oi := { dst := some 82, op := Op.pick (.tmp 59) (.const (.bool true)) (.tmp 81), type := _, pos := _, after := _, guard := _ }) (v := .bool false) rfl (by kernel_rfl) (by kernel_rfl) (by kernel_rfl) (fun _ _ _ h => h) (Or.inl ⟨by rfl, ?_⟩) (HS.out _ p1).1 ?_
            · intro w' hs
              obtain ⟨c0, c1, c2, c3, c4, c5, c6⟩ := hs
              go_simp
            try simp only [Act.put, List.setIfInBounds_toArray, List.set_cons_zero, List.set_cons_succ]
            refine wpAnyH_done (by kernel_rfl) ?_ _
            go_wp2
            go_roundw
            case rel => exact ⟨j + 1, by go_num, by omega, (HBt.out _ p1 |> Lib.hid), HD4⟩
            case measure => simp [intOf]; omega
          · have hxb : (x.kind != 0) = true := by simpa using hx0
            by_cases hy0 : y.kind = 0
            · have hyb : (y.kind != 0) = false := by simpa using hy0
              have HD4 : Hid (R = ((b.names.drop (j + 1)).zip (b.args.drop (j + 1))).all fun x => match look a x.1 with | none => false | some y => suitsE y x.2) := Lib.hid (by rw [HD3.out, HSE.out, decide_eq_true hy0, Bool.or_true]; rfl)
              clear HD3 HSE hx0 hy0
              refine wp_region_held_drew (S := fun W' => W'.cell? ⟨B4, 0, none⟩ = some (.int .i64 x.kind) ∧ W'.cell? ⟨B4, 1, none⟩ = some (.slice xn x.names.length xc) ∧ W'.cell? ⟨B4, 2, none⟩ = some (.slice xa x.args.length xd) ∧ W'.cell? ⟨w.heap.size + 1, 2, none⟩ = some (.slice (some ⟨b4, o4, none⟩) b.args.length db) ∧ W'.cell? ⟨b4, o4 + j * 3, none⟩ = some (.int .i64 y.kind) ∧ W'.cell? ⟨b4, o4 + j * 3 + 1, none⟩ = some (.slice bn2 y.names.length dn2) ∧ W'.cell? ⟨b4, o4 + j * 3 + 2, none⟩ = some (.slice bb2 y.args.length db2)) (by kernel_rfl) (HS.out _ (Below.refl _ _).drew).1 (fun _ => ?_)
              refine wpAnyH_take (i := 0) (oi := { dst := some 57, op := Op.move (.tmp 8), type := _, pos := _, after := _, guard := _ }) (v := .bool true) rfl (by kernel_rfl) (by kernel_rfl) (by kernel_rfl) (fun _ _ _ h => h) (Or.inl ⟨by rfl, ?_⟩) (HS.out _ (Below.refl _ _).drew).1 ?_
              · intro w' hs
                obtain ⟨c0, c1, c2, c3, c4, c5, c6⟩ := hs
                go_simp
              try simp only [Act.put, List.setIfInBounds_toArray, List.set_cons_zero, List.set_cons_succ]
              refine wpAnyH_take (i := 1) (oi := { dst := some 58, op := Op.unOp .not 4 (.tmp 57), type := _, pos := _, after := _, guard := _ }) (v := .bool false) rfl (by kernel_rfl) (by kernel_rfl) (by kernel_rfl) (fun _ _ _ h => h) (Or.inl ⟨by rfl, ?_⟩) (HS.out _ (Below.refl _ _).drew).1 ?_
              · intro w' hs
                obtain ⟨c0, c1, c2, c3, c4, c5, c6⟩ := hs
                go_simp
              try simp only [Act.put, List.setIfInBounds_toArray, List.set_cons_zero, List.set_cons_succ]
              refine wpAnyH_take (i := 2) (oi := { dst := some 59, op := Op.move (.tmp 58), type := _, pos := _, after := _, guard := _ }) (v := .bool false) rfl (by kernel_rfl) (by kernel_rfl) (by kernel_rfl) (fun _ _ _ h => h) (Or.inl ⟨by rfl, ?_⟩) (HS.out _ (Below.refl _ _).drew).1 ?_
              · intro w' hs
                obtain ⟨c0, c1, c2, c3, c4, c5, c6⟩ := hs
                go_simp
              try simp only [Act.put, List.setIfInBounds_toArray, List.set_cons_zero, List.set_cons_succ]
              refine wpAnyH_take (i := 3) (oi := { dst := some 60, op := Op.load 25 (.tmp 7), type := _, pos := _, after := _, guard := _ }) (v := .agg #[.int .i64 x.kind, .slice xn x.names.length xc, .slice xa x.args.length xd]) rfl (by kernel_rfl) (by kernel_rfl) (by kernel_rfl) (fun _ _ _ h => h) (Or.inl ⟨by rfl, ?_⟩) (HS.out _ (Below.refl _ _).drew).1 ?_
              · intro w' hs
                obtain ⟨c0, c1, c2, c3, c4, c5, c6⟩ := hs
                go_simp
              try simp only [Act.put, List.setIfInBounds_toArray, List.set_cons_zero, List.set_cons_succ]
              refine wpAnyH_take (i := 4) (oi := { dst := some 61, op := Op.fieldAddr 25 (.tmp 3) 2, type := _, pos := _, after := _, guard := _ }) (v := .pointer (some ⟨w.heap.size + 1, 2, none⟩)) rfl (by kernel_rfl) (by kernel_rfl) (by kernel_rfl) (fun _ _ _ h => h) (Or.inl ⟨by rfl, ?_⟩) (HS.out _ (Below.refl _ _).drew).1 ?_
              · intro w' hs
                obtain ⟨c0, c1, c2, c3, c4, c5, c6⟩ := hs
                go_simp
              try simp only [Act.put, List.setIfInBounds_toArray, List.set_cons_zero, List.set_cons_succ]
              refine wpAnyH_take (i := 5) (oi := { dst := some 62, op := Op.load 23 (.tmp 61), type := _, pos := _, after := _, guard := _ }) (v := .slice (some ⟨b4, o4, none⟩) b.args.length db) rfl (by kernel_rfl) (by kernel_rfl) (by kernel_rfl) (fun _ _ _ h => h) (Or.inl ⟨by rfl, ?_⟩) (HS.out _ (Below.refl _ _).drew).1 ?_
              · intro w' hs
                obtain ⟨c0, c1, c2, c3, c4, c5, c6⟩ := hs
                go_simp
              try simp only [Act.put, List.setIfInBounds_toArray, List.set_cons_zero, List.set_cons_succ]
              refine wpAnyH_take (i := 6) (oi := { dst := some 63, op := Op.move (.tmp 5), type := _, pos := _, after := _, guard := _ }) (v := .int .i64 (j : Int)) rfl (by kernel_rfl) (by kernel_rfl) (by kernel_rfl) (fun _ _ _ h => h) (Or.inl ⟨by rfl, ?_⟩) (HS.out _ (Below.refl _ _).drew).1 ?_
              · intro w' hs
                obtain ⟨c0, c1, c2, c3, c4, c5, c6⟩ := hs
                go_simp
              try simp only [Act.put, List.setIfInBounds_toArray, List.set_cons_zero, List.set_cons_succ]
              refine wpAnyH_take (i := 7) (oi := { dst := some 64, op := Op.indexAddr 23 (.tmp 62) (.tmp 63), type := _, pos := _, after := _, guard := _ }) (v := .pointer (some ⟨b4, o4 + j * 3, none⟩)) rfl (by kernel_rfl) (by kernel_rfl) (by kernel_rfl) (fun _ _ _ h => h) (Or.inl ⟨by rfl, ?_⟩) (HS.out _ (Below.refl _ _).drew).1 ?_
              · intro w' hs
                obtain ⟨c0, c1, c2, c3, c4, c5, c6⟩ := hs
                go_simp
              try simp only [Act.put, List.setIfInBounds_toArray, List.set_cons_zero, List.set_cons_succ]
              refine wpAnyH_take (i := 8) (oi := { dst := some 65, op := Op.load 25 (.tmp 64), type := _, pos := _, after := _, guard := _ }) (v := .agg #[.int .i64 y.kind, .slice bn2 y.names.length dn2, .slice bb2 y.args.length db2]) rfl (by kernel_rfl) (by kernel_rfl) (by kernel_rfl) (fun _ _ _ h => h) (Or.inl ⟨by rfl, ?_⟩) (HS.out _ (Below.refl _ _).drew).1 ?_
              · intro w' hs
                obtain ⟨c0, c1, c2, c3, c4, c5, c6⟩ := hs
                go_simp
              try simp only [Act.put, List.setIfInBounds_toArray, List.set_cons_zero, List.set_cons_succ]
              refine wpAnyH_ready (rs := [9]) (by kernel_rfl) (by simp) ?_
              refine AllReadyH.cons (o := { dst := some 66, op := Op.call { callee := .value (.func 23), args := #[.tmp 60, .tmp 65], argTypes := _ }, type := _, pos := _, after := _, guard := _ }) rfl (fun K hK => ?_) AllReadyH.nil
              go_simp
              refine (HSa.out).mono ?_
              rintro e w6 ⟨rfl, hb6⟩
              have p1 : Below w5.heap.size w5 w6 := ((Below.refl w5.heap.size w5).drew).trans hb6
              refine hK.out _ _ (HS.out _ p1).1 (fun _ => ?_)
              clear hK K hb6
              try simp only [Act.put, List.setIfInBounds_toArray, List.set_cons_zero, List.set_cons_succ]
              refine wpAnyH_take (i := 10) (oi := { dst := some 67, op := Op.unOp .not 4 (.tmp 66), type := _, pos := _, after := _, guard := _ }) (v := .bool true) rfl (by kernel_rfl) (by kernel_rfl) (by kernel_rfl) (fun _ _ _ h => h) (Or.inl ⟨by rfl, ?_⟩) (HS.out _ p1).1 ?_
              · intro w' hs
                obtain ⟨c0, c1, c2, c3, c4, c5, c6⟩ := hs
                go_simp
              try simp only [Act.put, List.setIfInBounds_toArray, List.set_cons_zero, List.set_cons_succ]
              refine wpAnyH_take (i := 11) (oi := { dst := some 68, op := Op.move (.tmp 67), type := _, pos := _, after := _, guard := _ }) (v := .bool true) rfl (by kernel_rfl) (by kernel_rfl) (by kernel_rfl) (fun _ _ _ h => h) (Or.inl ⟨by rfl, ?_⟩) (HS.out _ p1).1 ?_
              · intro w' hs
                obtain ⟨c0, c1, c2, c3, c4, c5, c6⟩ := hs
                go_simp
              try simp only [Act.put, List.setIfInBounds_toArray, List.set_cons_zero, List.set_cons_succ]
              refine wpAnyH_take (i := 12) (oi := { dst := some 69, op := Op.fieldAddr 25 (.tmp 7) 0, type := _, pos := _, after := _, guard := _ }) (v := .pointer (some ⟨B4, 0, none⟩)) rfl (by kernel_rfl) (by kernel_rfl) (by kernel_rfl) (fun _ _ _ h => h) (Or.inl ⟨by rfl, ?_⟩) (HS.out _ p1).1 ?_
              · intro w' hs
                obtain ⟨c0, c1, c2, c3, c4, c5, c6⟩ := hs
                go_simp
              try simp only [Act.put, List.setIfInBounds_toArray, List.set_cons_zero, List.set_cons_succ]
              refine wpAnyH_take (i := 13) (oi := { dst := some 70, op := Op.load 3 (.tmp 69), type := _, pos := _, after := _, guard := _ }) (v := .int .i64 x.kind) rfl (by kernel_rfl) (by kernel_rfl) (by kernel_rfl) (fun _ _ _ h => h) (Or.inl ⟨by rfl, ?_⟩) (HS.out _ p1).1 ?_
              · intro w' hs
                obtain ⟨c0, c1, c2, c3, c4, c5, c6⟩ := hs
                go_simp
              try simp only [Act.put, List.setIfInBounds_toArray, List.set_cons_zero, List.set_cons_succ]
              refine wpAnyH_take (i := 14) (oi := { dst := some 71, op := Op.binOp .neq 3 (.tmp 70) (.const (.int .i64 0)) 3, type := _, pos := _, after := _, guard := _ }) (v := .bool true) rfl (by kernel_rfl) (by kernel_rfl) (by kernel_rfl) (fun _ _ _ h => h) (Or.inl ⟨by rfl, ?_⟩) (HS.out _ p1).1 ?_
              · intro w' hs
                obtain ⟨c0, c1, c2, c3, c4, c5, c6⟩ := hs
                go_simp
              try simp only [Act.put, List.setIfInBounds_toArray, List.set_cons_zero, List.set_cons_succ]
              refine wpAnyH_take (i := 15) (oi := { dst := some 72, op := Op.pick (.tmp 68) (.tmp 71) (.const (.bool false)), type := _, pos := _, after := _, guard := _ }) (v := .bool true) rfl (by kernel_rfl) (by kernel_rfl) (by kernel_rfl) (fun _ _ _ h => h) (Or.inl ⟨by rfl, ?_⟩) (HS.out _ p1).1 ?_
              · intro w' hs
                obtain ⟨c0, c1, c2, c3, c4, c5, c6⟩ := hs
                go_simp
              try simp only [Act.put, List.setIfInBounds_toArray, List.set_cons_zero, List.set_cons_succ]
              refine wpAnyH_take (i := 16) (oi := { dst := some 73, op := Op.move (.tmp 72), type := _, pos := _, after := _, guard := _ }) (v := .bool true) rfl (by kernel_rfl) (by kernel_rfl) (by kernel_rfl) (fun _ _ _ h => h) (Or.inl ⟨by rfl, ?_⟩) (HS.out _ p1).1 ?_
              · intro w' hs
                obtain ⟨c0, c1, c2, c3, c4, c5, c6⟩ := hs
                go_simp
              try simp only [Act.put, List.setIfInBounds_toArray, List.set_cons_zero, List.set_cons_succ]
              refine wpAnyH_take (i := 17) (oi := { dst := some 74, op := Op.fieldAddr 25 (.tmp 3) 2, type := _, pos := _, after := _, guard := _ }) (v := .pointer (some ⟨w.heap.size + 1, 2, none⟩)) rfl (by kernel_rfl) (by kernel_rfl) (by kernel_rfl) (fun _ _ _ h => h) (Or.inl ⟨by rfl, ?_⟩) (HS.out _ p1).1 ?_
              · intro w' hs
                obtain ⟨c0, c1, c2, c3, c4, c5, c6⟩ := hs
                go_simp
              try simp only [Act.put, List.setIfInBounds_toArray, List.set_cons_zero, List.set_cons_succ]
              refine wpAnyH_take (i := 18) (oi := { dst := some 75, op := Op.load 23 (.tmp 74), type := _, pos := _, after := _, guard := _ }) (v := .slice (some ⟨b4, o4, none⟩) b.args.length db) rfl (by kernel_rfl) (by kernel_rfl) (by kernel_rfl) (fun _ _ _ h => h) (Or.inl ⟨by rfl, ?_⟩) (HS.out _ p1).1 ?_
              · intro w' hs
                obtain ⟨c0, c1, c2, c3, c4, c5, c6⟩ := hs
                go_simp
              try simp only [Act.put, List.setIfInBounds_toArray, List.set_cons_zero, List.set_cons_succ]
              refine wpAnyH_take (i := 19) (oi := { dst := some 76, op := Op.move (.tmp 5), type := _, pos := _, after := _, guard := _ }) (v := .int .i64 (j : Int)) rfl (by kernel_rfl) (by kernel_rfl) (by kernel_rfl) (fun _ _ _ h => h) (Or.inl ⟨by rfl, ?_⟩) (HS.out _ p1).1 ?_
              · intro w' hs
                obtain ⟨c0, c1, c2, c3, c4, c5, c6⟩ := hs
                go_simp
              try simp only [Act.put, List.setIfInBounds_toArray, List.set_cons_zero, List.set_cons_succ]
              refine wpAnyH_take (i := 20) (oi := { dst := some 77, op := Op.indexAddr 23 (.tmp 75) (.tmp 76), type := _, pos := _, after := _, guard := _ }) (v := .pointer (some ⟨b4, o4 + j * 3, none⟩)) rfl (by kernel_rfl) (by kernel_rfl) (by kernel_rfl) (fun _ _ _ h => h) (Or.inl ⟨by rfl, ?_⟩) (HS.out _ p1).1 ?_
              · intro w' hs
                obtain ⟨c0, c1, c2, c3, c4, c5, c6⟩ := hs
                go_simp
              try simp only [Act.put, List.setIfInBounds_toArray, List.set_cons_zero, List.set_cons_succ]
              refine wpAnyH_take (i := 21) (oi := { dst := some 78, op := Op.fieldAddr 25 (.tmp 77) 0, type := _, pos := _, after := _, guard := _ }) (v := .pointer (some ⟨b4, o4 + j * 3, none⟩)) rfl (by kernel_rfl) (by kernel_rfl) (by kernel_rfl) (fun _ _ _ h => h) (Or.inl ⟨by rfl, ?_⟩) (HS.out _ p1).1 ?_
              · intro w' hs
                obtain ⟨c0, c1, c2, c3, c4, c5, c6⟩ := hs
                go_simp
              try simp only [Act.put, List.setIfInBounds_toArray, List.set_cons_zero, List.set_cons_succ]
              refine wpAnyH_take (i := 22) (oi := { dst := some 79, op := Op.load 3 (.tmp 78), type := _, pos := _, after := _, guard := _ }) (v := .int .i64 y.kind) rfl (by kernel_rfl) (by kernel_rfl) (by kernel_rfl) (fun _ _ _ h => h) (Or.inl ⟨by rfl, ?_⟩) (HS.out _ p1).1 ?_
              · intro w' hs
                obtain ⟨c0, c1, c2, c3, c4, c5, c6⟩ := hs
                go_simp
              try simp only [Act.put, List.setIfInBounds_toArray, List.set_cons_zero, List.set_cons_succ]
              refine wpAnyH_take (i := 23) (oi := { dst := some 80, op := Op.binOp .neq 3 (.tmp 79) (.const (.int .i64 0)) 3, type := _, pos := _, after := _, guard := _ }) (v := .bool false) rfl (by kernel_rfl) (by kernel_rfl) (by kernel_rfl) (fun _ _ _ h => h) (Or.inl ⟨by rfl, ?_⟩) (HS.out _ p1).1 ?_
              · intro w' hs
                obtain ⟨c0, c1, c2, c3, c4, c5, c6⟩ := hs
                go_simp
              try simp only [Act.put, List.setIfInBounds_toArray, List.set_cons_zero, List.set_cons_succ]
              refine wpAnyH_take (i := 24) (oi := { dst := some 81, op := Op.pick (.tmp 73) (.tmp 80) (.const (.bool false)), type := _, pos := _, after := _, guard := _ }) (v := .bool false) rfl (by kernel_rfl) (by kernel_rfl) (by kernel_rfl) (fun _ _ _ h => h) (Or.inl ⟨by rfl, ?_⟩) (HS.out _ p1).1 ?_
              · intro w' hs
                obtain ⟨c0, c1, c2, c3, c4, c5, c6⟩ := hs
                go_simp
              try simp only [Act.put, List.setIfInBounds_toArray, List.set_cons_zero, List.set_cons_succ]
              refine wpAnyH_take (i := 25) (oi := { dst := some 82, op := Op.pick (.tmp 59) (.const (.bool true)) (.tmp 81), type := _, pos := _, after := _, guard := _ }) (v := .bool false) rfl (by kernel_rfl) (by kernel_rfl) (by kernel_rfl) (fun _ _ _ h => h) (Or.inl ⟨by rfl, ?_⟩) (HS.out _ p1).1 ?_
              · intro w' hs
                obtain ⟨c0, c1, c2, c3, c4, c5, c6⟩ := hs
                go_simp
              try simp only [Act.put, List.setIfInBounds_toArray, List.set_cons_zero, List.set_cons_succ]
              refine wpAnyH_done (by kernel_rfl) ?_ _
              go_wp2
              go_roundw
              case rel => exact ⟨j + 1, by go_num, by omega, (HBt.out _ p1 |> Lib.hid), HD4⟩
              case measure => simp [intOf]; omega
            · have hyb : (y.kind != 0) = true := by simpa using hy0
              have HF3 : Hid (R = false) := Lib.hid (by rw [HD3.out, HSE.out, decide_eq_false hx0, decide_eq_false hy0]; rfl)
              obtain rfl := HF3.out
              clear HD3 HSE hx0 hy0 HF
              refine wp_region_held_drew (S := fun W' => W'.cell? ⟨B4, 0, none⟩ = some (.int .i64 x.kind) ∧ W'.cell? ⟨B4, 1, none⟩ = some (.slice xn x.names.length xc) ∧ W'.cell? ⟨B4, 2, none⟩ = some (.slice xa x.args.length xd) ∧ W'.cell? ⟨w.heap.size + 1, 2, none⟩ = some (.slice (some ⟨b4, o4, none⟩) b.args.length db) ∧ W'.cell? ⟨b4, o4 + j * 3, none⟩ = some (.int .i64 y.kind) ∧ W'.cell? ⟨b4, o4 + j * 3 + 1, none⟩ = some (.slice bn2 y.names.length dn2) ∧ W'.cell? ⟨b4, o4 + j * 3 + 2, none⟩ = some (.slice bb2 y.args.length db2)) (by kernel_rfl) (HS.out _ (Below.refl _ _).drew).1 (fun _ => ?_)
              refine wpAnyH_take (i := 0) (oi := { dst := some 57, op := Op.move (.tmp 8), type := _, pos := _, after := _, guard := _ }) (v := .bool true) rfl (by kernel_rfl) (by kernel_rfl) (by kernel_rfl) (fun _ _ _ h => h) (Or.inl ⟨by rfl, ?_⟩) (HS.out _ (Below.refl _ _).drew).1 ?_
              · intro w' hs
                obtain ⟨c0, c1, c2, c3, c4, c5, c6⟩ := hs
                go_simp
              try simp only [Act.put, List.setIfInBounds_toArray, List.set_cons_zero, List.set_cons_succ]
              refine wpAnyH_take (i := 1) (oi := { dst := some 58, op := Op.unOp .not 4 (.tmp 57), type := _, pos := _, after := _, guard := _ }) (v := .bool false) rfl (by kernel_rfl) (by kernel_rfl) (by kernel_rfl) (fun _ _ _ h => h) (Or.inl ⟨by rfl, ?_⟩) (HS.out _ (Below.refl _ _).drew).1 ?_
              · intro w' hs
                obtain ⟨c0, c1, c2, c3, c4, c5, c6⟩ := hs
                go_simp
              try simp only [Act.put, List.setIfInBounds_toArray, List.set_cons_zero, List.set_cons_succ]
              refine wpAnyH_take (i := 2) (oi := { dst := some 59, op := Op.move (.tmp 58), type := _, pos := _, after := _, guard := _ }) (v := .bool false) rfl (by kernel_rfl) (by kernel_rfl) (by kernel_rfl) (fun _ _ _ h => h) (Or.inl ⟨by rfl, ?_⟩) (HS.out _ (Below.refl _ _).drew).1 ?_
              · intro w' hs
                obtain ⟨c0, c1, c2, c3, c4, c5, c6⟩ := hs
                go_simp
              try simp only [Act.put, List.setIfInBounds_toArray, List.set_cons_zero, List.set_cons_succ]
              refine wpAnyH_take (i := 3) (oi := { dst := some 60, op := Op.load 25 (.tmp 7), type := _, pos := _, after := _, guard := _ }) (v := .agg #[.int .i64 x.kind, .slice xn x.names.length xc, .slice xa x.args.length xd]) rfl (by kernel_rfl) (by kernel_rfl) (by kernel_rfl) (fun _ _ _ h => h) (Or.inl ⟨by rfl, ?_⟩) (HS.out _ (Below.refl _ _).drew).1 ?_
              · intro w' hs
                obtain ⟨c0, c1, c2, c3, c4, c5, c6⟩ := hs
                go_simp
              try simp only [Act.put, List.setIfInBounds_toArray, List.set_cons_zero, List.set_cons_succ]
              refine wpAnyH_take (i := 4) (oi := { dst := some 61, op := Op.fieldAddr 25 (.tmp 3) 2, type := _, pos := _, after := _, guard := _ }) (v := .pointer (some ⟨w.heap.size + 1, 2, none⟩)) rfl (by kernel_rfl) (by kernel_rfl) (by kernel_rfl) (fun _ _ _ h => h) (Or.inl ⟨by rfl, ?_⟩) (HS.out _ (Below.refl _ _).drew).1 ?_
              · intro w' hs
                obtain ⟨c0, c1, c2, c3, c4, c5, c6⟩ := hs
                go_simp
              try simp only [Act.put, List.setIfInBounds_toArray, List.set_cons_zero, List.set_cons_succ]
              refine wpAnyH_take (i := 5) (oi := { dst := some 62, op := Op.load 23 (.tmp 61), type := _, pos := _, after := _, guard := _ }) (v := .slice (some ⟨b4, o4, none⟩) b.args.length db) rfl (by kernel_rfl) (by kernel_rfl) (by kernel_rfl) (fun _ _ _ h => h) (Or.inl ⟨by rfl, ?_⟩) (HS.out _ (Below.refl _ _).drew).1 ?_
              · intro w' hs
                obtain ⟨c0, c1, c2, c3, c4, c5, c6⟩ := hs
                go_simp
              try simp only [Act.put, List.setIfInBounds_toArray, List.set_cons_zero, List.set_cons_succ]
              refine wpAnyH_take (i := 6) (oi := { dst := some 63, op := Op.move (.tmp 5), type := _, pos := _, after := _, guard := _ }) (v := .int .i64 (j : Int)) rfl (by kernel_rfl) (by kernel_rfl) (by kernel_rfl) (fun _ _ _ h => h) (Or.inl ⟨by rfl, ?_⟩) (HS.out _ (Below.refl _ _).drew).1 ?_
              · intro w' hs
                obtain ⟨c0, c1, c2, c3, c4, c5, c6⟩ := hs
                go_simp
              try simp only [Act.put, List.setIfInBounds_toArray, List.set_cons_zero, List.set_cons_succ]
              refine wpAnyH_take (i := 7) (oi := { dst := some 64, op := Op.indexAddr 23 (.tmp 62) (.tmp 63), type := _, pos := _, after := _, guard := _ }) (v := .pointer (some ⟨b4, o4 + j * 3, none⟩)) rfl (by kernel_rfl) (by kernel_rfl) (by kernel_rfl) (fun _ _ _ h => h) (Or.inl ⟨by rfl, ?_⟩) (HS.out _ (Below.refl _ _).drew).1 ?_
              · intro w' hs
                obtain ⟨c0, c1, c2, c3, c4, c5, c6⟩ := hs
                go_simp
              try simp only [Act.put, List.setIfInBounds_toArray, List.set_cons_zero, List.set_cons_succ]
              refine wpAnyH_take (i := 8) (oi := { dst := some 65, op := Op.load 25 (.tmp 64), type := _, pos := _, after := _, guard := _ }) (v := .agg #[.int .i64 y.kind, .slice bn2 y.names.length dn2, .slice bb2 y.args.length db2]) rfl (by kernel_rfl) (by kernel_rfl) (by kernel_rfl) (fun _ _ _ h => h) (Or.inl ⟨by rfl, ?_⟩) (HS.out _ (Below.refl _ _).drew).1 ?_
              · intro w' hs
                obtain ⟨c0, c1, c2, c3, c4, c5, c6⟩ := hs
                go_simp
              try simp only [Act.put, List.setIfInBounds_toArray, List.set_cons_zero, List.set_cons_succ]
              refine wpAnyH_ready (rs := [9]) (by kernel_rfl) (by simp) ?_
              refine AllReadyH.cons (o := { dst := some 66, op := Op.call { callee := .value (.func 23), args := #[.tmp 60, .tmp 65], argTypes := _ }, type := _, pos := _, after := _, guard := _ }) rfl (fun K hK => ?_) AllReadyH.nil
              go_simp
              refine (HSa.out).mono ?_
              rintro e w6 ⟨rfl, hb6⟩
              have p1 : Below w5.heap.size w5 w6 := ((Below.refl w5.heap.size w5).drew).trans hb6
              refine hK.out _ _ (HS.out _ p1).1 (fun _ => ?_)
              clear hK K hb6
              try simp only [Act.put, List.setIfInBounds_toArray, List.set_cons_zero, List.set_cons_succ]
              refine wpAnyH_take (i := 10) (oi := { dst := some 67, op := Op.unOp .not 4 (.tmp 66), type := _, pos := _, after := _, guard := _ }) (v := .bool true) rfl (by kernel_rfl) (by kernel_rfl) (by kernel_rfl) (fun _ _ _ h => h) (Or.inl ⟨by rfl, ?_⟩) (HS.out _ p1).1 ?_
              · intro w' hs
                obtain ⟨c0, c1, c2, c3, c4, c5, c6⟩ := hs
                go_simp
              try simp only [Act.put, List.setIfInBounds_toArray, List.set_cons_zero, List.set_cons_succ]
              refine wpAnyH_take (i := 11) (oi := { dst := some 68, op := Op.move (.tmp 67), type := _, pos := _, after := _, guard := _ }) (v := .bool true) rfl (by kernel_rfl) (by kernel_rfl) (by kernel_rfl) (fun _ _ _ h => h) (Or.inl ⟨by rfl, ?_⟩) (HS.out _ p1).1 ?_
              · intro w' hs
                obtain ⟨c0, c1, c2, c3, c4, c5, c6⟩ := hs
                go_simp
              try simp only [Act.put, List.setIfInBounds_toArray, List.set_cons_zero, List.set_cons_succ]
              refine wpAnyH_take (i := 12) (oi := { dst := some 69, op := Op.fieldAddr 25 (.tmp 7) 0, type := _, pos := _, after := _, guard := _ }) (v := .pointer (some ⟨B4, 0, none⟩)) rfl (by kernel_rfl) (by kernel_rfl) (by kernel_rfl) (fun _ _ _ h => h) (Or.inl ⟨by rfl, ?_⟩) (HS.out _ p1).1 ?_
              · intro w' hs
                obtain ⟨c0, c1, c2, c3, c4, c5, c6⟩ := hs
                go_simp
              try simp only [Act.put, List.setIfInBounds_toArray, List.set_cons_zero, List.set_cons_succ]
              refine wpAnyH_take (i := 13) (oi := { dst := some 70, op := Op.load 3 (.tmp 69), type := _, pos := _, after := _, guard := _ }) (v := .int .i64 x.kind) rfl (by kernel_rfl) (by kernel_rfl) (by kernel_rfl) (fun _ _ _ h => h) (Or.inl ⟨by rfl, ?_⟩) (HS.out _ p1).1 ?_
              · intro w' hs
                obtain ⟨c0, c1, c2, c3, c4, c5, c6⟩ := hs
                go_simp
              try simp only [Act.put, List.setIfInBounds_toArray, List.set_cons_zero, List.set_cons_succ]
              refine wpAnyH_take (i := 14) (oi := { dst := some 71, op := Op.binOp .neq 3 (.tmp 70) (.const (.int .i64 0)) 3, type := _, pos := _, after := _, guard := _ }) (v := .bool true) rfl (by kernel_rfl) (by kernel_rfl) (by kernel_rfl) (fun _ _ _ h => h) (Or.inl ⟨by rfl, ?_⟩) (HS.out _ p1).1 ?_
              · intro w' hs
                obtain ⟨c0, c1, c2, c3, c4, c5, c6⟩ := hs
                go_simp
              try simp only [Act.put, List.setIfInBounds_toArray, List.set_cons_zero, List.set_cons_succ]
              refine wpAnyH_take (i := 15) (oi := { dst := some 72, op := Op.pick (.tmp 68) (.tmp 71) (.const (.bool false)), type := _, pos := _, after := _, guard := _ }) (v := .bool true) rfl (by kernel_rfl) (by kernel_rfl) (by kernel_rfl) (fun _ _ _ h => h) (Or.inl ⟨by rfl, ?_⟩) (HS.out _ p1).1 ?_
              · intro w' hs
                obtain ⟨c0, c1, c2, c3, c4, c5, c6⟩ := hs
                go_simp
              try simp only [Act.put, List.setIfInBounds_toArray, List.set_cons_zero, List.set_cons_succ]
              refine wpAnyH_take (i := 16) (oi := { dst := some 73, op := Op.move (.tmp 72), type := _, pos := _, after := _, guard := _ }) (v := .bool true) rfl (by kernel_rfl) (by kernel_rfl) (by kernel_rfl) (fun _ _ _ h => h) (Or.inl ⟨by rfl, ?_⟩) (HS.out _ p1).1 ?_
              · intro w' hs
                obtain ⟨c0, c1, c2, c3, c4, c5, c6⟩ := hs
                go_simp
              try simp only [Act.put, List.setIfInBounds_toArray, List.set_cons_zero, List.set_cons_succ]
              refine wpAnyH_take (i := 17) (oi := { dst := some 74, op := Op.fieldAddr 25 (.tmp 3) 2, type := _, pos := _, after := _, guard := _ }) (v := .pointer (some ⟨w.heap.size + 1, 2, none⟩)) rfl (by kernel_rfl) (by kernel_rfl) (by kernel_rfl) (fun _ _ _ h => h) (Or.inl ⟨by rfl, ?_⟩) (HS.out _ p1).1 ?_
              · intro w' hs
                obtain ⟨c0, c1, c2, c3, c4, c5, c6⟩ := hs
                go_simp
              try simp only [Act.put, List.setIfInBounds_toArray, List.set_cons_zero, List.set_cons_succ]
              refine wpAnyH_take (i := 18) (oi := { dst := some 75, op := Op.load 23 (.tmp 74), type := _, pos := _, after := _, guard := _ }) (v := .slice (some ⟨b4, o4, none⟩) b.args.length db) rfl (by kernel_rfl) (by kernel_rfl) (by kernel_rfl) (fun _ _ _ h => h) (Or.inl ⟨by rfl, ?_⟩) (HS.out _ p1).1 ?_
              · intro w' hs
                obtain ⟨c0, c1, c2, c3, c4, c5, c6⟩ := hs
                go_simp
              try simp only [Act.put, List.setIfInBounds_toArray, List.set_cons_zero, List.set_cons_succ]
              refine wpAnyH_take (i := 19) (oi := { dst := some 76, op := Op.move (.tmp 5), type := _, pos := _, after := _, guard := _ }) (v := .int .i64 (j : Int)) rfl (by kernel_rfl) (by kernel_rfl) (by kernel_rfl) (fun _ _ _ h => h) (Or.inl ⟨by rfl, ?_⟩) (HS.out _ p1).1 ?_
              · intro w' hs
                obtain ⟨c0, c1, c2, c3, c4, c5, c6⟩ := hs
                go_simp
              try simp only [Act.put, List.setIfInBounds_toArray, List.set_cons_zero, List.set_cons_succ]
              refine wpAnyH_take (i := 20) (oi := { dst := some 77, op := Op.indexAddr 23 (.tmp 75) (.tmp 76), type := _, pos := _, after := _, guard := _ }) (v := .pointer (some ⟨b4, o4 + j * 3, none⟩)) rfl (by kernel_rfl) (by kernel_rfl) (by kernel_rfl) (fun _ _ _ h => h) (Or.inl ⟨by rfl, ?_⟩) (HS.out _ p1).1 ?_
              · intro w' hs
                obtain ⟨c0, c1, c2, c3, c4, c5, c6⟩ := hs
                go_simp
              try simp only [Act.put, List.setIfInBounds_toArray, List.set_cons_zero, List.set_cons_succ]
              refine wpAnyH_take (i := 21) (oi := { dst := some 78, op := Op.fieldAddr 25 (.tmp 77) 0, type := _, pos := _, after := _, guard := _ }) (v := .pointer (some ⟨b4, o4 + j * 3, none⟩)) rfl (by kernel_rfl) (by kernel_rfl) (by kernel_rfl) (fun _ _ _ h => h) (Or.inl ⟨by rfl, ?_⟩) (HS.out _ p1).1 ?_
              · intro w' hs
                obtain ⟨c0, c1, c2, c3, c4, c5, c6⟩ := hs
                go_simp
              try simp only [Act.put, List.setIfInBounds_toArray, List.set_cons_zero, List.set_cons_succ]
              refine wpAnyH_take (i := 22) (oi := { dst := some 79, op := Op.load 3 (.tmp 78), type := _, pos := _, after := _, guard := _ }) (v := .int .i64 y.kind) rfl (by kernel_rfl) (by kernel_rfl) (by kernel_rfl) (fun _ _ _ h => h) (Or.inl ⟨by rfl, ?_⟩) (HS.out _ p1).1 ?_
              · intro w' hs
                obtain ⟨c0, c1, c2, c3, c4, c5, c6⟩ := hs
                go_simp
              try simp only [Act.put, List.setIfInBounds_toArray, List.set_cons_zero, List.set_cons_succ]
              refine wpAnyH_take (i := 23) (oi := { dst := some 80, op := Op.binOp .neq 3 (.tmp 79) (.const (.int .i64 0)) 3, type := _, pos := _, after := _, guard := _ }) (v := .bool true) rfl (by kernel_rfl) (by kernel_rfl) (by kernel_rfl) (fun _ _ _ h => h) (Or.inl ⟨by rfl, ?_⟩) (HS.out _ p1).1 ?_
              · intro w' hs
                obtain ⟨c0, c1, c2, c3, c4, c5, c6⟩ := hs
                go_simp
              try simp only [Act.put, List.setIfInBounds_toArray, List.set_cons_zero, List.set_cons_succ]
              refine wpAnyH_take (i := 24) (oi := { dst := some 81, op := Op.pick (.tmp 73) (.tmp 80) (.const (.bool false)), type := _, pos := _, after := _, guard := _ }) (v := .bool true) rfl (by kernel_rfl) (by kernel_rfl) (by kernel_rfl) (fun _ _ _ h => h) (Or.inl ⟨by rfl, ?_⟩) (HS.out _ p1).1 ?_
              · intro w' hs
                obtain ⟨c0, c1, c2, c3, c4, c5, c6⟩ := hs
                go_simp
              try simp only [Act.put, List.setIfInBounds_toArray, List.set_cons_zero, List.set_cons_succ]
              refine wpAnyH_take (i := 25) (oi := { dst := some 82, op := Op.pick (.tmp 59) (.const (.bool true)) (.tmp 81), type := _, pos := _, after := _, guard := _ }) (v := .bool true) rfl (by kernel_rfl) (by kernel_rfl) (by kernel_rfl) (fun _ _ _ h => h) (Or.inl ⟨by rfl, ?_⟩) (HS.out _ p1).1 ?_
              · intro w' hs
                obtain ⟨c0, c1, c2, c3, c4, c5, c6⟩ := hs
                go_simp
              try simp only [Act.put, List.setIfInBounds_toArray, List.set_cons_zero, List.set_cons_succ]
              refine wpAnyH_done (by kernel_rfl) ?_ _
              go_wp2
              go_ret
              exact ⟨rfl, (HS.out _ p1).2⟩
        · have HD4 : Hid (R = ((b.names.drop (j + 1)).zip (b.args.drop (j + 1))).all fun x => match look a x.1 with | none => false | some y => suitsE y x.2) := Lib.hid (by rw [HD3.out, HSE.out, Bool.or_true]; rfl)
          clear HD3 HSE
          refine wp_region_held_drew (S := fun W' => W'.cell? ⟨B4, 0, none⟩ = some (.int .i64 x.kind) ∧ W'.cell? ⟨B4, 1, none⟩ = some (.slice xn x.names.length xc) ∧ W'.cell? ⟨B4, 2, none⟩ = some (.slice xa x.args.length xd) ∧ W'.cell? ⟨w.heap.size + 1, 2, none⟩ = some (.slice (some ⟨b4, o4, none⟩) b.args.length db) ∧ W'.cell? ⟨b4, o4 + j * 3, none⟩ = some (.int .i64 y.kind) ∧ W'.cell? ⟨b4, o4 + j * 3 + 1, none⟩ = some (.slice bn2 y.names.length dn2) ∧ W'.cell? ⟨b4, o4 + j * 3 + 2, none⟩ = some (.slice bb2 y.args.length db2)) (by kernel_rfl) (HS.out _ (Below.refl _ _).drew).1 (fun _ => ?_)
          refine wpAnyH_take (i := 0) (oi := { dst := some 57, op := Op.move (.tmp 8), type := _, pos := _, after := _, guard := _ }) (v := .bool true) rfl (by kernel_rfl) (by kernel_rfl) (by kernel_rfl) (fun _ _ _ h => h) (Or.inl ⟨by rfl, ?_⟩) (HS.out _ (Below.refl _ _).drew).1 ?_
          · intro w' hs
            obtain ⟨c0, c1, c2, c3, c4, c5, c6⟩ := hs
            go_simp
          try simp only [Act.put, List.setIfInBounds_toArray, List.set_cons_zero, List.set_cons_succ]
          refine wpAnyH_take (i := 1) (oi := { dst := some 58, op := Op.unOp .not 4 (.tmp 57), type := _, pos := _, after := _, guard := _ }) (v := .bool false) rfl (by kernel_rfl) (by kernel_rfl) (by kernel_rfl) (fun _ _ _ h => h) (Or.inl ⟨by rfl, ?_⟩) (HS.out _ (Below.refl _ _).drew).1 ?_
          · intro w' hs
            obtain ⟨c0, c1, c2, c3, c4, c5, c6⟩ := hs
            go_simp
          try simp only [Act.put, List.setIfInBounds_toArray, List.set_cons_zero, List.set_cons_succ]
          refine wpAnyH_take (i := 2) (oi := { dst := some 59, op := Op.move (.tmp 58), type := _, pos := _, after := _, guard := _ }) (v := .bool false) rfl (by kernel_rfl) (by kernel_rfl) (by kernel_rfl) (fun _ _ _ h => h) (Or.inl ⟨by rfl, ?_⟩) (HS.out _ (Below.refl _ _).drew).1 ?_
          · intro w' hs
            obtain ⟨c0, c1, c2, c3, c4, c5, c6⟩ := hs
            go_simp
          try simp only [Act.put, List.setIfInBounds_toArray, List.set_cons_zero, List.set_cons_succ]
          refine wpAnyH_take (i := 3) (oi := { dst := some 60, op := Op.load 25 (.tmp 7), type := _, pos := _, after := _, guard := _ }) (v := .agg #[.int .i64 x.kind, .slice xn x.names.length xc, .slice xa x.args.length xd]) rfl (by kernel_rfl) (by kernel_rfl) (by kernel_rfl) (fun _ _ _ h => h) (Or.inl ⟨by rfl, ?_⟩) (HS.out _ (Below.refl _ _).drew).1 ?_
          · intro w' hs
            obtain ⟨c0, c1, c2, c3, c4, c5, c6⟩ := hs
            go_simp
          try simp only [Act.put, List.setIfInBounds_toArray, List.set_cons_zero, List.set_cons_succ]
          refine wpAnyH_take (i := 4) (oi := { dst := some 61, op := Op.fieldAddr 25 (.tmp 3) 2, type := _, pos := _, after := _, guard := _ }) (v := .pointer (some ⟨w.heap.size + 1, 2, none⟩)) rfl (by kernel_rfl) (by kernel_rfl) (by kernel_rfl) (fun _ _ _ h => h) (Or.inl ⟨by rfl, ?_⟩) (HS.out _ (Below.refl _ _).drew).1 ?_
          · intro w' hs
            obtain ⟨c0, c1, c2, c3, c4, c5, c6⟩ := hs
            go_simp
          try simp only [Act.put, List.setIfInBounds_toArray, List.set_cons_zero, List.set_cons_succ]
          refine wpAnyH_take (i := 5) (oi := { dst := some 62, op := Op.load 23 (.tmp 61), type := _, pos := _, after := _, guard := _ }) (v := .slice (some ⟨b4, o4, none⟩) b.args.length db) rfl (by kernel_rfl) (by kernel_rfl) (by kernel_rfl) (fun _ _ _ h => h) (Or.inl ⟨by rfl, ?_⟩) (HS.out _ (Below.refl _ _).drew).1 ?_
          · intro w' hs
            obtain ⟨c0, c1, c2, c3, c4, c5, c6⟩ := hs
            go_simp
          try simp only [Act.put, List.setIfInBounds_toArray, List.set_cons_zero, List.set_cons_succ]
          refine wpAnyH_take (i := 6) (oi := { dst := some 63, op := Op.move (.tmp 5), type := _, pos := _, after := _, guard := _ }) (v := .int .i64 (j : Int)) rfl (by kernel_rfl) (by kernel_rfl) (by kernel_rfl) (fun _ _ _ h => h) (Or.inl ⟨by rfl, ?_⟩) (HS.out _ (Below.refl _ _).drew).1 ?_
          · intro w' hs
            obtain ⟨c0, c1, c2, c3, c4, c5, c6⟩ := hs
            go_simp
          try simp only [Act.put, List.setIfInBounds_toArray, List.set_cons_zero, List.set_cons_succ]
          refine wpAnyH_take (i := 7) (oi := { dst := some 64, op := Op.indexAddr 23 (.tmp 62) (.tmp 63), type := _, pos := _, after := _, guard := _ }) (v := .pointer (some ⟨b4, o4 + j * 3, none⟩)) rfl (by kernel_rfl) (by kernel_rfl) (by kernel_rfl) (fun _ _ _ h => h) (Or.inl ⟨by rfl, ?_⟩) (HS.out _ (Below.refl _ _).drew).1 ?_
          · intro w' hs
            obtain ⟨c0, c1, c2, c3, c4, c5, c6⟩ := hs
            go_simp
          try simp only [Act.put, List.setIfInBounds_toArray, List.set_cons_zero, List.set_cons_succ]
          refine wpAnyH_take (i := 8) (oi := { dst := some 65, op := Op.load 25 (.tmp 64), type := _, pos := _, after := _, guard := _ }) (v := .agg #[.int .i64 y.kind, .slice bn2 y.names.length dn2, .slice bb2 y.args.length db2]) rfl (by kernel_rfl) (by kernel_rfl) (by kernel_rfl) (fun _ _ _ h => h) (Or.inl ⟨by rfl, ?_⟩) (HS.out _ (Below.refl _ _).drew).1 ?_
          · intro w' hs
            obtain ⟨c0, c1, c2, c3, c4, c5, c6⟩ := hs
            go_simp
          try simp only [Act.put, List.setIfInBounds_toArray, List.set_cons_zero, List.set_cons_succ]
          refine wpAnyH_ready (rs := [9]) (by kernel_rfl) (by simp) ?_
          refine AllReadyH.cons (o := { dst := some 66, op := Op.call { callee := .value (.func 23), args := #[.tmp 60, .tmp 65], argTypes := _ }, type := _, pos := _, after := _, guard := _ }) rfl (fun K hK => ?_) AllReadyH.nil
          go_simp
          refine (HSa.out).mono ?_
          rintro e w6 ⟨rfl, hb6⟩
          have p1 : Below w5.heap.size w5 w6 := ((Below.refl w5.heap.size w5).drew).trans hb6
          refine hK.out _ _ (HS.out _ p1).1 (fun _ => ?_)
          clear hK K hb6
          try simp only [Act.put, List.setIfInBounds_toArray, List.set_cons_zero, List.set_cons_succ]
          refine wpAnyH_take (i := 10) (oi := { dst := some 67, op := Op.unOp .not 4 (.tmp 66), type := _, pos := _, after := _, guard := _ }) (v := .bool false) rfl (by kernel_rfl) (by kernel_rfl) (by kernel_rfl) (fun _ _ _ h => h) (Or.inl ⟨by rfl, ?_⟩) (HS.out _ p1).1 ?_
          · intro w' hs
            obtain ⟨c0, c1, c2, c3, c4, c5, c6⟩ := hs
            go_simp
          try simp only [Act.put, List.setIfInBounds_toArray, List.set_cons_zero, List.set_cons_succ]
          refine wpAnyH_take (i := 11) (oi := { dst := some 68, op := Op.move (.tmp 67), type := _, pos := _, after := _, guard := _ }) (v := .bool false) rfl (by kernel_rfl) (by kernel_rfl) (by kernel_rfl) (fun _ _ _ h => h) (Or.inl ⟨by rfl, ?_⟩) (HS.out _ p1).1 ?_
          · intro w' hs
            obtain ⟨c0, c1, c2, c3, c4, c5, c6⟩ := hs
            go_simp
          try simp only [Act.put, List.setIfInBounds_toArray, List.set_cons_zero, List.set_cons_succ]
          refine wpAnyH_take (i := 12) (oi := { dst := some 69, op := Op.fieldAddr 25 (.tmp 7) 0, type := _, pos := _, after := _, guard := _ }) (v := undef) rfl (by kernel_rfl) (by kernel_rfl) (by kernel_rfl) (fun _ _ _ h => h) (Or.inr ⟨by rfl, rfl⟩) (HS.out _ p1).1 ?_
          try simp only [Act.put, List.setIfInBounds_toArray, List.set_cons_zero, List.set_cons_succ]
          refine wpAnyH_take (i := 13) (oi := { dst := some 70, op := Op.load 3 (.tmp 69), type := _, pos := _, after := _, guard := _ }) (v := undef) rfl (by kernel_rfl) (by kernel_rfl) (by kernel_rfl) (fun _ _ _ h => h) (Or.inr ⟨by rfl, rfl⟩) (HS.out _ p1).1 ?_
          try simp only [Act.put, List.setIfInBounds_toArray, List.set_cons_zero, List.set_cons_succ]
          refine wpAnyH_take (i := 14) (oi := { dst := some 71, op := Op.binOp .neq 3 (.tmp 70) (.const (.int .i64 0)) 3, type := _, pos := _, after := _, guard := _ }) (v := undef) rfl (by kernel_rfl) (by kernel_rfl) (by kernel_rfl) (fun _ _ _ h => h) (Or.inr ⟨by rfl, rfl⟩) (HS.out _ p1).1 ?_
          try simp only [Act.put, List.setIfInBounds_toArray, List.set_cons_zero, List.set_cons_succ]
          refine wpAnyH_take (i := 15) (oi := { dst := some 72, op := Op.pick (.tmp 68) (.tmp 71) (.const (.bool false)), type := _, pos := _, after := _, guard := _ }) (v := .bool false) rfl (by kernel_rfl) (by kernel_rfl) (by kernel_rfl) (fun _ _ _ h => h) (Or.inl ⟨by rfl, ?_⟩) (HS.out _ p1).1 ?_
          · intro w' hs
            obtain ⟨c0, c1, c2, c3, c4, c5, c6⟩ := hs
            go_simp
          try simp only [Act.put, List.setIfInBounds_toArray, List.set_cons_zero, List.set_cons_succ]
          refine wpAnyH_take (i := 16) (oi := { dst := some 73, op := Op.move (.tmp 72), type := _, pos := _, after := _, guard := _ }) (v := .bool false) rfl (by kernel_rfl) (by kernel_rfl) (by kernel_rfl) (fun _ _ _ h => h) (Or.inl ⟨by rfl, ?_⟩) (HS.out _ p1).1 ?_
          · intro w' hs
            obtain ⟨c0, c1, c2, c3, c4, c5, c6⟩ := hs
            go_simp
          try simp only [Act.put, List.setIfInBounds_toArray, List.set_cons_zero, List.set_cons_succ]
          refine wpAnyH_take (i := 17) (oi := { dst := some 74, op := Op.fieldAddr 25 (.tmp 3) 2, type := _, pos := _, after := _, guard := _ }) (v := undef) rfl (by kernel_rfl) (by kernel_rfl) (by kernel_rfl) (fun _ _ _ h => h) (Or.inr ⟨by rfl, rfl⟩) (HS.out _ p1).1 ?_
          try simp only [Act.put, List.setIfInBounds_toArray, List.set_cons_zero, List.set_cons_succ]
          refine wpAnyH_take (i := 18) (oi := { dst := some 75, op := Op.load 23 (.tmp 74), type := _, pos := _, after := _, guard := _ }) (v := undef) rfl (by kernel_rfl) (by kernel_rfl) (by kernel_rfl) (fun _ _ _ h => h) (Or.inr ⟨by rfl, rfl⟩) (HS.out _ p1).1 ?_
          try simp only [Act.put, List.setIfInBounds_toArray, List.set_cons_zero, List.set_cons_succ]
          refine wpAnyH_take (i := 19) (oi := { dst := some 76, op := Op.move (.tmp 5), type := _, pos := _, after := _, guard := _ }) (v := undef) rfl (by kernel_rfl) (by kernel_rfl) (by kernel_rfl) (fun _ _ _ h => h) (Or.inr ⟨by rfl, rfl⟩) (HS.out _ p1).1 ?_
          try simp only [Act.put, List.setIfInBounds_toArray, List.set_cons_zero, List.set_cons_succ]
          refine wpAnyH_take (i := 20) (oi := { dst := some 77, op := Op.indexAddr 23 (.tmp 75) (.tmp 76), type := _, pos := _, after := _, guard := _ }) (v := undef) rfl (by kernel_rfl) (by kernel_rfl) (by kernel_rfl) (fun _ _ _ h => h) (Or.inr ⟨by rfl, rfl⟩) (HS.out _ p1).1 ?_
          try simp only [Act.put, List.setIfInBounds_toArray, List.set_cons_zero, List.set_cons_succ]
          refine wpAnyH_take (i := 21) (oi := { dst := some 78, op := Op.fieldAddr 25 (.tmp 77) 0, type := _, pos := _, after := _, guard := _ }) (v := undef) rfl (by kernel_rfl) (by kernel_rfl) (by kernel_rfl) (fun _ _ _ h => h) (Or.inr ⟨by rfl, rfl⟩) (HS.out _ p1).1 ?_
          try simp only [Act.put, List.setIfInBounds_toArray, List.set_cons_zero, List.set_cons_succ]
          refine wpAnyH_take (i := 22) (oi := { dst := some 79, op := Op.load 3 (.tmp 78), type := _, pos := _, after := _, guard := _ }) (v := undef) rfl (by kernel_rfl) (by kernel_rfl) (by kernel_rfl) (fun _ _ _ h => h) (Or.inr ⟨by rfl, rfl⟩) (HS.out _ p1).1 ?_
          try simp only [Act.put, List.setIfInBounds_toArray, List.set_cons_zero, List.set_cons_succ]
          refine wpAnyH_take (i := 23) (oi := { dst := some 80, op := Op.binOp .neq 3 (.tmp 79) (.const (.int .i64 0)) 3, type := _, pos := _, after := _, guard := _ }) (v := undef) rfl (by kernel_rfl) (by kernel_rfl) (by kernel_rfl) (fun _ _ _ h => h) (Or.inr ⟨by rfl, rfl⟩) (HS.out _ p1).1 ?_
          try simp only [Act.put, List.setIfInBounds_toArray, List.set_cons_zero, List.set_cons_succ]
          refine wpAnyH_take (i := 24) (oi := { dst := some 81, op := Op.pick (.tmp 73) (.tmp 80) (.const (.bool false)), type := _, pos := _, after := _, guard := _ }) (v := .bool false) rfl (by kernel_rfl) (by kernel_rfl) (by kernel_rfl) (fun _ _ _ h => h) (Or.inl ⟨by rfl, ?_⟩) (HS.out _ p1).1 ?_
          · intro w' hs
            obtain ⟨c0, c1, c2, c3, c4, c5, c6⟩ := hs
            go_simp
          try simp only [Act.put, List.setIfInBounds_toArray, List.set_cons_zero, List.set_cons_succ]
          refine wpAnyH_take (i := 25) (oi := { dst := some 82, op := Op.pick (.tmp 59) (.const (.bool true)) (.tmp 81), type := _, pos := _, after := _, guard := _ }) (v := .bool false) rfl (by kernel_rfl) (by kernel_rfl) (by kernel_rfl) (fun _ _ _ h => h) (Or.inl ⟨by rfl, ?_⟩) (HS.out _ p1).1 ?_
          · intro w' hs
            obtain ⟨c0, c1, c2, c3, c4, c5, c6⟩ := hs
            go_simp
          try simp only [Act.put, List.setIfInBounds_toArray, List.set_cons_zero, List.set_cons_succ]
          refine wpAnyH_done (by kernel_rfl) ?_ _
          go_wp2
          go_roundw
          case rel => exact ⟨j + 1, by go_num, by omega, (HBt.out _ p1 |> Lib.hid), HD4⟩
          case measure => simp [intOf]; omega
      | no _ hb4 =>
        have HB4 := Lib.hid (HFx.out _ _ HB.out hb4)
        have hb5 : Below w4.heap.size w4 (w4.alloc (.cells #[.int .i64 0, .slice none 0 0, .slice none 0 0] 25)) := (Below.refl _ w4).alloc (Nat.le_refl _) _
        have HB5 := Lib.hid (HFx.out _ _ HB4.out hb5)
        have HW5 := Lib.hid (HAf.out _ HB5.out).2
        have HF2 : Hid (R = false) := Lib.hid (by rw [HDj.out]; rfl)
        obtain rfl := HF2.out
        clear HDj HF hb5
        go_wp2
        go_quiet (fail)
        go_wp2
        go_ret
        exact ⟨rfl, drewN_below HW5.out _⟩
    · have hjm : b.names.length = j := by omega
      have HF2 : Hid (R = true) := Lib.hid (by rw [HD.out, List.drop_eq_nil_of_le (by omega)]; rfl)
      obtain rfl := HF2.out
      have hi1 : ¬ (j : Int) < (b.names.length : Int) := by omega
      clear HD HF
      go_wp2
      go_ret
      exact ⟨rfl, HWr.out⟩
end TyD
end Go.Proofs.YtjddjiggelpdnaaDoor
