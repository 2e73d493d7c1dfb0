/- Sub: the program's. -/
import Derived.Test.YthcdbmbimdkcfaaDoorTyFA
import Derived.Test.YthcdbmbimdkcfaaDoorTyKinds
import Derived.Deep.RegionHeld3
import Derived.Deep.RegionWith
namespace Go.Proofs.YthcdbmbimdkcfaaDoor
open Go.RowKit ObjM
namespace TyD
open LexD (nameB WTab)

theorem mask_fin : ∀ x y : Fin 128, decide ((BitVec.ofNat 64 x.val &&& ~~~BitVec.ofNat 64 y.val).toNat = 0) = decide (x.val &&& y.val = x.val) := by decide +kernel
theorem mask_bits {x y : Nat} (hx : x < 128) (hy : y < 128) : (bits BinOp.andNot IntKind.i64 (x : Int) (y : Int) == 0) = maskB x y := by
  have h : bits BinOp.andNot IntKind.i64 (x : Int) (y : Int) = IntKind.i64.wrap ((BitVec.ofInt 64 (x : Int) &&& ~~~BitVec.ofInt 64 (y : Int)).toNat : Nat) := rfl
  have hf := mask_fin ⟨x, hx⟩ ⟨y, hy⟩
  simp only at hf
  have e1 : BitVec.ofInt 64 (x : Int) = BitVec.ofNat 64 x := rfl
  have e2 : BitVec.ofInt 64 (y : Int) = BitVec.ofNat 64 y := rfl
  have hle : (BitVec.ofNat 64 x &&& ~~~BitVec.ofNat 64 y).toNat ≤ x := by
    rw [BitVec.toNat_and]
    refine Nat.le_trans Nat.and_le_left ?_
    rw [BitVec.toNat_ofNat]
    exact Nat.mod_le _ _
  unfold maskB
  rw [h, e1, e2, ← hf, IntKind.wrap_i64]
  generalize (BitVec.ofNat 64 x &&& ~~~BitVec.ofNat 64 y).toNat = z at hle
  rw [Bool.eq_iff_iff]
  simp
  omega
set_option maxRecDepth 100000 in
set_option maxHeartbeats 1000000 in
theorem rflat_any (t : Ty) (vn va : Value) (w : World) (h : TyAt w vn va t) : Calls Tryd.prog 43 #[.agg #[.int .i64 t.kind, vn, va]] w (BoolB w (decide (t.kind ≤ 7))) := by
  obtain ⟨an, cn, aa, ca, rfl, rfl⟩ := h.shape
  generalize t.kind = k
  clear h
  go_enter Tryd.func43, Tryd.ntmps43
  go_wp2
  go_ret
  exact ⟨rfl, (Below.refl _ _).alloc (Nat.le_refl _) _⟩
set_option maxRecDepth 100000 in
set_option maxHeartbeats 16000000 in
theorem sub_any : ∀ (r : Nat) (a b : Ty) (vn va un ua : Value) (w : World), Ok r a → Ok r b → TyOk a → TyOk b → TyAt w vn va a → TyAt w un ua b → WTab w → KTab w →
    Calls Tryd.prog 32 #[.agg #[.int .i64 a.kind, vn, va], .agg #[.int .i64 b.kind, un, ua]] w (BoolB w (subB r a b)) := by
  intro r
  induction r with
  | zero =>
    intro a b vn va un ua w hv
    cases hv.valid
  | succ r ih =>
    intro a b vn va un ua w hva hvb oka okb ha hb hT hK
    have ka := hva.kind
    have kb := hvb.kind
    obtain ⟨hh0, hh1, hbw, hsz⟩ := box2 w [.int .i64 a.kind, vn, va] [.int .i64 b.kind, un, ua] 25 _ rfl
    have HBW := Lib.hid hbw
    have HH0 := Lib.hid hh0
    have HH1 := Lib.hid hh1
    have HT := Lib.hid (fun (W : World) (h : Below w.heap.size w W) => (⟨hT.below h, hK.below h⟩ : WTab W ∧ KTab W))
    have HFi := Lib.hid (fun (h8 : a.kind = 8 ∧ b.kind = 8) (W : World) (h : Below w.heap.size w W) => fieldsSame sameV a b vn va un ua W WTab oka okb (ha.frame (Nat.le_refl _) h) (hb.frame (Nat.le_refl _) h) (hva.shape h8.1).1 (hva.shape h8.1).2.1 (hvb.shape h8.2).1
      (fun x y vn va un ua W hx hy h1 h2 h3 => same_any x y vn va un ua W (by obtain ⟨k, ns, ts⟩ := a; exact oka.parts.2.2.2.2 x hx) (by obtain ⟨k, ns, ts⟩ := b; exact okb.parts.2.2.2.2 y hy) h1 h2 h3) (fun W2 h2 => (hT.below h).below h2))
    have HAr := Lib.hid (fun (h9 : a.kind = 9) (W : World) (h : Below w.heap.size w W) => arrowSub (subB r) a b vn va un ua W (fun W => WTab W ∧ KTab W) oka okb (ha.frame (Nat.le_refl _) h) (hb.frame (Nat.le_refl _) h) (hva.func h9).2
      (fun x y vn va un ua W hxy h1 h2 h3 => ih x y vn va un ua W (by rcases hxy with ⟨hx, _⟩ | ⟨hx, _⟩; exact hva.pred x hx; exact hvb.pred x hx) (by rcases hxy with ⟨_, hy⟩ | ⟨_, hy⟩; exact hvb.pred y hy; exact hva.pred y hy)
        (by obtain ⟨k, ns, ts⟩ := a; obtain ⟨k', ns', ts'⟩ := b; rcases hxy with ⟨hx, _⟩ | ⟨hx, _⟩; exact oka.parts.2.2.2.2 x hx; exact okb.parts.2.2.2.2 x hx)
        (by obtain ⟨k, ns, ts⟩ := a; obtain ⟨k', ns', ts'⟩ := b; rcases hxy with ⟨_, hy⟩ | ⟨_, hy⟩; exact okb.parts.2.2.2.2 y hy; exact oka.parts.2.2.2.2 y hy) h1 h2 h3.1 h3.2) (fun W2 h2 => ⟨(hT.below h).below h2, (hK.below h).below h2⟩))
    have HFa := Lib.hid (fun (W : World) (h : Below w.heap.size w W) => rflat_any a vn va W (ha.frame (Nat.le_refl _) h))
    have HFb := Lib.hid (fun (W : World) (h : Below w.heap.size w W) => rflat_any b un ua W (hb.frame (Nat.le_refl _) h))
    have HKa := Lib.hid (fun (W : World) (h : Below w.heap.size w W) => kinds_any a vn va W oka (ha.frame (Nat.le_refl _) h) (hT.below h) (hK.below h))
    have HKb := Lib.hid (fun (W : World) (h : Below w.heap.size w W) => kinds_any b un ua W okb (hb.frame (Nat.le_refl _) h) (hT.below h) (hK.below h))
    have HMk : Hid ((bits BinOp.andNot IntKind.i64 (kindsC a : Int) (kindsC b : Int) == 0) = maskB (kindsV a) (kindsV b)) := Lib.hid (by
      rw [mask_bits (kindsC_lt a) (kindsC_lt b)]
      unfold kindsC
      rw [if_pos hva.check, if_pos hvb.check])
    have HR : Hid (subB (r + 1) a b = if b.kind = 0 then true else if a.kind = 0 then false else if a.kind = 8 ∧ b.kind = 8 then fieldsB sameV a b else if a.kind = 9 ∧ b.kind = 9 then arrowB (subB r) a.args b.args
      else if a.kind ≤ 8 then decide (b.kind ≤ 7) && maskB (kindsV a) (kindsV b) else false) := Lib.hid rfl
    obtain ⟨R, hR⟩ : ∃ R, subB (r + 1) a b = R := ⟨_, rfl⟩
    rw [hR] at HR ⊢
    generalize fieldsB sameV a b = rf at HFi HR
    generalize arrowB (subB r) a.args b.args = ra at HAr HR
    generalize maskB (kindsV a) (kindsV b) = rm at HMk HR
    generalize (kindsC a : Int) = xa at HKa HMk
    generalize (kindsC b : Int) = xb at HKb HMk
    obtain ⟨an, cn, aa, ca, rfl, rfl⟩ := ha.shape
    obtain ⟨bn, dn, bb, db, rfl, rfl⟩ := hb.shape
    generalize a.kind = k at *
    generalize b.kind = k' at *
    clear ha hb oka okb hva hvb ih hT hK hbw hh0 hh1 hsz hR
    by_cases b0 : k' = 0
    · subst b0
      have HF : Hid (R = true) := Lib.hid (by rw [HR.out, if_pos rfl])
      obtain rfl := HF.out
      clear HR
      go_enter Tryd.func32, Tryd.ntmps32
      go_wp2
      go_ret
      exact ⟨rfl, HBW.out⟩
    have b0b : (k' == 0) = false := by simpa using b0
    by_cases a0 : k = 0
    · subst a0
      have HF : Hid (R = false) := Lib.hid (by rw [HR.out, if_neg b0, if_pos rfl])
      obtain rfl := HF.out
      clear HR
      go_enter Tryd.func32, Tryd.ntmps32
      go_wp2
      go_ret
      exact ⟨rfl, HBW.out⟩
    have a0b : (k == 0) = false := by simpa using a0
    by_cases h88 : k = 8 ∧ k' = 8
    · have HC := Lib.hid (fun W h => HFi.out h88 W h)
      obtain ⟨rfl, rfl⟩ := h88
      have HF : Hid (R = rf) := Lib.hid (by rw [HR.out, if_neg b0, if_neg a0, if_pos ⟨rfl, rfl⟩])
      obtain rfl := HF.out
      clear HR HFi HAr HMk
      go_enter Tryd.func32, Tryd.ntmps32
      go_wp2_with fail
      refine (HC.out _ HBW.out).mono ?_
      rintro e w2 ⟨rfl, hb2⟩
      have HB2 := Lib.hid (HBW.out.trans (hb2.mono HBW.out.size))
      clear hb2
      go_wp2
      go_ret
      exact ⟨rfl, HB2.out⟩
    by_cases h99 : k = 9 ∧ k' = 9
    · have HC := Lib.hid (fun W h => HAr.out h99.1 W h)
      obtain ⟨rfl, rfl⟩ := h99
      have HF : Hid (R = ra) := Lib.hid (by rw [HR.out, if_neg b0, if_neg a0, if_neg h88, if_pos ⟨rfl, rfl⟩])
      obtain rfl := HF.out
      clear HR HFi HAr HMk h88
      go_enter Tryd.func32, Tryd.ntmps32
      go_wp2_with fail
      refine (HC.out _ HBW.out).mono ?_
      rintro e w2 ⟨rfl, hb2⟩
      have HB2 := Lib.hid (HBW.out.trans (hb2.mono HBW.out.size))
      clear hb2
      go_wp2
      go_ret
      exact ⟨rfl, HB2.out⟩
    have HR2 : Hid (R = if k ≤ 8 then decide (k' ≤ 7) && rm else false) := Lib.hid (by rw [HR.out, if_neg b0, if_neg a0, if_neg h88, if_neg h99])
    clear HR HFi HAr
    by_cases k9 : k = 9
    · subst k9
      have hk9 : (k' == 9) = false := by simp; omega
      have HF : Hid (R = false) := Lib.hid (by rw [HR2.out]; rfl)
      obtain rfl := HF.out
      clear HR2 h88 h99 HMk
      go_enter Tryd.func32, Tryd.ntmps32
      go_wp2_with fail
      refine (HFa.out _ HBW.out).mono ?_
      rintro e w2 ⟨rfl, hb2⟩
      have HB2 := Lib.hid (HBW.out.trans (hb2.mono HBW.out.size))
      clear hb2
      go_wp2
      go_ret
      exact ⟨rfl, HB2.out⟩
    have k9b : (k == 9) = false := by simpa using k9
    have HR3 : Hid (R = (decide (k' ≤ 7) && rm)) := Lib.hid (by rw [HR2.out, if_pos (by omega)])
    clear HR2
    by_cases k8 : k = 8
    · subst k8
      have hk8 : (k' == 8) = false := by simp; omega
      clear h88 h99
      obtain ⟨fb, hfb⟩ : ∃ fb, decide (k' ≤ 7) = fb := ⟨_, rfl⟩
      rw [hfb] at HFb HR3
      clear hfb HFa
      cases fb
      · have HF : Hid (R = false) := Lib.hid (by rw [HR3.out]; rfl)
        obtain rfl := HF.out
        clear HR3 HMk
        go_enter Tryd.func32, Tryd.ntmps32
        go_wp2
        change Code.wp _ _ _ _ (World.alloc (World.alloc w _) _)
        generalize World.alloc (World.alloc w (.cells #[.int .i64 8, .slice an a.names.length cn, .slice aa a.args.length ca] 25)) (.cells #[.int .i64 k', .slice bn b.names.length dn, .slice bb b.args.length db] 25) = w1 at HBW HH0 HH1 ⊢
        generalize hA : w.heap.size = B0 at HH0 HH1 ⊢
        have HAz := Lib.hid hA
        clear hA
        have HAf : Hid (∀ W, Below w1.heap.size w1 W → (W.cell? ⟨B0, 0, none⟩ = some (.int .i64 8) ∧ W.cell? ⟨B0, 1, none⟩ = some (.slice an a.names.length cn) ∧ W.cell? ⟨B0, 2, none⟩ = some (.slice aa a.args.length ca) ∧ W.cell? ⟨B0 + 1, 0, none⟩ = some (.int .i64 k') ∧ W.cell? ⟨B0 + 1, 1, none⟩ = some (.slice bn b.names.length dn) ∧ W.cell? ⟨B0 + 1, 2, none⟩ = some (.slice bb b.args.length db) ∧ B0 < W.heap.size ∧ B0 + 1 < W.heap.size) ∧ Below w.heap.size w W) := Lib.hid (fun W h => by
          have h0 := HH0.out.below h HH0.out.lt
          have h1 := HH1.out.below h HH1.out.lt
          exact ⟨⟨h0.cell 0, h0.cell 1, h0.cell 2, h1.cell 0, h1.cell 1, h1.cell 2, h0.lt, h1.lt⟩, HBW.out.trans (h.mono HBW.out.size)⟩)
        obtain ⟨W0, hW0⟩ : ∃ W0, w1 = W0 := ⟨_, rfl⟩
        have HB0 : Hid (Below w1.heap.size w1 W0) := Lib.hid (by rw [← hW0]; exact Below.refl _ _)
        rw [hW0]
        clear hW0
        have hS0 := HAf.out W0 HB0.out
        have HW : Hid (∀ W, Below W0.heap.size W0 W → (fun W' => W'.cell? ⟨B0, 0, none⟩ = some (.int .i64 8) ∧ W'.cell? ⟨B0, 1, none⟩ = some (.slice an a.names.length cn) ∧ W'.cell? ⟨B0, 2, none⟩ = some (.slice aa a.args.length ca) ∧ W'.cell? ⟨B0 + 1, 0, none⟩ = some (.int .i64 k') ∧ W'.cell? ⟨B0 + 1, 1, none⟩ = some (.slice bn b.names.length dn) ∧ W'.cell? ⟨B0 + 1, 2, none⟩ = some (.slice bb b.args.length db)) W ∧ Below w.heap.size w W) := Lib.hid (fun W h => by
          obtain ⟨⟨g0, g1, g2, g3, g4, g5, g6, g7⟩, g8⟩ := HAf.out W (HB0.out.trans (h.mono HB0.out.size))
          exact ⟨⟨g0, g1, g2, g3, g4, g5⟩, g8⟩)
        obtain ⟨⟨x0, x1, x2, y0, y1, y2, lA, lB⟩, -⟩ := hS0
        go_region_with
          (first
                  | (go_at_call 43
                     refine (HFb.out _ (HW.out _ (Below.refl _ _).drew).2).mono ?_
                     rintro e w5 ⟨rfl, hb5⟩
                     have p1 := ((Below.refl W0.heap.size W0).drew).trans hb5))
        all_goals
          go_wp2
          go_ret
          exact ⟨rfl, (HW.out _ p1).2⟩
      · have HF : Hid (R = rm) := Lib.hid (by rw [HR3.out]; rfl)
        obtain rfl := HF.out
        have hmk := HMk.out
        clear HR3 HMk
        go_enter Tryd.func32, Tryd.ntmps32
        go_wp2
        change Code.wp _ _ _ _ (World.alloc (World.alloc w _) _)
        generalize World.alloc (World.alloc w (.cells #[.int .i64 8, .slice an a.names.length cn, .slice aa a.args.length ca] 25)) (.cells #[.int .i64 k', .slice bn b.names.length dn, .slice bb b.args.length db] 25) = w1 at HBW HH0 HH1 ⊢
        generalize hA : w.heap.size = B0 at HH0 HH1 ⊢
        have HAz := Lib.hid hA
        clear hA
        have HAf : Hid (∀ W, Below w1.heap.size w1 W → (W.cell? ⟨B0, 0, none⟩ = some (.int .i64 8) ∧ W.cell? ⟨B0, 1, none⟩ = some (.slice an a.names.length cn) ∧ W.cell? ⟨B0, 2, none⟩ = some (.slice aa a.args.length ca) ∧ W.cell? ⟨B0 + 1, 0, none⟩ = some (.int .i64 k') ∧ W.cell? ⟨B0 + 1, 1, none⟩ = some (.slice bn b.names.length dn) ∧ W.cell? ⟨B0 + 1, 2, none⟩ = some (.slice bb b.args.length db) ∧ B0 < W.heap.size ∧ B0 + 1 < W.heap.size) ∧ Below w.heap.size w W) := Lib.hid (fun W h => by
          have h0 := HH0.out.below h HH0.out.lt
          have h1 := HH1.out.below h HH1.out.lt
          exact ⟨⟨h0.cell 0, h0.cell 1, h0.cell 2, h1.cell 0, h1.cell 1, h1.cell 2, h0.lt, h1.lt⟩, HBW.out.trans (h.mono HBW.out.size)⟩)
        obtain ⟨W0, hW0⟩ : ∃ W0, w1 = W0 := ⟨_, rfl⟩
        have HB0 : Hid (Below w1.heap.size w1 W0) := Lib.hid (by rw [← hW0]; exact Below.refl _ _)
        rw [hW0]
        clear hW0
        have hS0 := HAf.out W0 HB0.out
        have HW : Hid (∀ W, Below W0.heap.size W0 W → (fun W' => W'.cell? ⟨B0, 0, none⟩ = some (.int .i64 8) ∧ W'.cell? ⟨B0, 1, none⟩ = some (.slice an a.names.length cn) ∧ W'.cell? ⟨B0, 2, none⟩ = some (.slice aa a.args.length ca) ∧ W'.cell? ⟨B0 + 1, 0, none⟩ = some (.int .i64 k') ∧ W'.cell? ⟨B0 + 1, 1, none⟩ = some (.slice bn b.names.length dn) ∧ W'.cell? ⟨B0 + 1, 2, none⟩ = some (.slice bb b.args.length db)) W ∧ Below w.heap.size w W) := Lib.hid (fun W h => by
          obtain ⟨⟨g0, g1, g2, g3, g4, g5, g6, g7⟩, g8⟩ := HAf.out W (HB0.out.trans (h.mono HB0.out.size))
          exact ⟨⟨g0, g1, g2, g3, g4, g5⟩, g8⟩)
        obtain ⟨⟨x0, x1, x2, y0, y1, y2, lA, lB⟩, -⟩ := hS0
        first | (go_region_held3 (fun W' => W'.cell? ⟨B0, 0, none⟩ = some (.int .i64 8) ∧ W'.cell? ⟨B0, 1, none⟩ = some (.slice an a.names.length cn) ∧ W'.cell? ⟨B0, 2, none⟩ = some (.slice aa a.args.length ca) ∧ W'.cell? ⟨B0 + 1, 0, none⟩ = some (.int .i64 k') ∧ W'.cell? ⟨B0 + 1, 1, none⟩ = some (.slice bn b.names.length dn) ∧ W'.cell? ⟨B0 + 1, 2, none⟩ = some (.slice bb b.args.length db))
          (first | exact (HW.out _ (Below.refl _ _).drew).1 | exact (HW.out _ p3).1 | exact (HW.out _ p2).1 | exact (HW.out _ p1).1 | skip)
          (first
                  | (go_at_call 43
                     refine (HFb.out _ (HW.out _ (Below.refl _ _).drew).2).mono ?_
                     rintro e w5 ⟨rfl, hb5⟩
                     have p1 := ((Below.refl W0.heap.size W0).drew).trans hb5)
                  | (go_at_call 45
                     with_reducible refine (HKa.out _ (HW.out _ p1).2).mono ?_
                     rintro e w6 ⟨rfl, hb6⟩
                     have p2 := p1.trans (hb6.mono p1.size))
                  | (go_at_call 45
                     with_reducible refine (HKb.out _ (HW.out _ p2).2).mono ?_
                     rintro e w7 ⟨rfl, hb7⟩
                     have p3 := p2.trans (hb7.mono p2.size)))) | fail
        all_goals
          go_wp2
          go_ret
          exact ⟨rfl, (HW.out _ p3).2⟩
    · have k8b : (k == 8) = false := by simpa using k8
      have hfa : decide (k ≤ 7) = true := by simp; omega
      rw [hfa] at HFa
      clear h88 h99 hfa
      obtain ⟨fb, hfb⟩ : ∃ fb, decide (k' ≤ 7) = fb := ⟨_, rfl⟩
      rw [hfb] at HFb HR3
      clear hfb
      cases fb
      · have HF : Hid (R = false) := Lib.hid (by rw [HR3.out]; rfl)
        obtain rfl := HF.out
        clear HR3 HMk
        go_enter Tryd.func32, Tryd.ntmps32
        go_wp2_with fail
        change Calls _ _ _ (World.alloc (World.alloc w _) _) _
        generalize World.alloc (World.alloc w (.cells #[.int .i64 k, .slice an a.names.length cn, .slice aa a.args.length ca] 25)) (.cells #[.int .i64 k', .slice bn b.names.length dn, .slice bb b.args.length db] 25) = w1 at HBW HH0 HH1 ⊢
        generalize hA : w.heap.size = B0 at HH0 HH1 ⊢
        have HAz := Lib.hid hA
        clear hA
        have HAf : Hid (∀ W, Below w1.heap.size w1 W → (W.cell? ⟨B0, 0, none⟩ = some (.int .i64 k) ∧ W.cell? ⟨B0, 1, none⟩ = some (.slice an a.names.length cn) ∧ W.cell? ⟨B0, 2, none⟩ = some (.slice aa a.args.length ca) ∧ W.cell? ⟨B0 + 1, 0, none⟩ = some (.int .i64 k') ∧ W.cell? ⟨B0 + 1, 1, none⟩ = some (.slice bn b.names.length dn) ∧ W.cell? ⟨B0 + 1, 2, none⟩ = some (.slice bb b.args.length db) ∧ B0 < W.heap.size ∧ B0 + 1 < W.heap.size) ∧ Below w.heap.size w W) := Lib.hid (fun W h => by
          have h0 := HH0.out.below h HH0.out.lt
          have h1 := HH1.out.below h HH1.out.lt
          exact ⟨⟨h0.cell 0, h0.cell 1, h0.cell 2, h1.cell 0, h1.cell 1, h1.cell 2, h0.lt, h1.lt⟩, HBW.out.trans (h.mono HBW.out.size)⟩)
        refine (HFa.out _ HBW.out).mono ?_
        rintro e W0 ⟨rfl, hb2⟩
        have HB0 := Lib.hid hb2
        clear hb2
        obtain ⟨⟨x0, x1, x2, y0, y1, y2, lA, lB⟩, -⟩ := HAf.out W0 HB0.out
        go_wp2
        clear x0 x1 x2 y0 y1 y2 lA lB
        have hS0 := HAf.out W0 HB0.out
        have HW : Hid (∀ W, Below W0.heap.size W0 W → (fun W' => W'.cell? ⟨B0, 0, none⟩ = some (.int .i64 k) ∧ W'.cell? ⟨B0, 1, none⟩ = some (.slice an a.names.length cn) ∧ W'.cell? ⟨B0, 2, none⟩ = some (.slice aa a.args.length ca) ∧ W'.cell? ⟨B0 + 1, 0, none⟩ = some (.int .i64 k') ∧ W'.cell? ⟨B0 + 1, 1, none⟩ = some (.slice bn b.names.length dn) ∧ W'.cell? ⟨B0 + 1, 2, none⟩ = some (.slice bb b.args.length db)) W ∧ Below w.heap.size w W) := Lib.hid (fun W h => by
          obtain ⟨⟨g0, g1, g2, g3, g4, g5, g6, g7⟩, g8⟩ := HAf.out W (HB0.out.trans (h.mono HB0.out.size))
          exact ⟨⟨g0, g1, g2, g3, g4, g5⟩, g8⟩)
        obtain ⟨⟨x0, x1, x2, y0, y1, y2, lA, lB⟩, -⟩ := hS0
        go_region_with
          (first
                  | (go_at_call 43
                     refine (HFb.out _ (HW.out _ (Below.refl _ _).drew).2).mono ?_
                     rintro e w5 ⟨rfl, hb5⟩
                     have p1 := ((Below.refl W0.heap.size W0).drew).trans hb5))
        all_goals
          go_wp2
          go_ret
          exact ⟨rfl, (HW.out _ p1).2⟩
      · have HF : Hid (R = rm) := Lib.hid (by rw [HR3.out]; rfl)
        obtain rfl := HF.out
        have hmk := HMk.out
        clear HR3 HMk
        go_enter Tryd.func32, Tryd.ntmps32
        go_wp2_with fail
        change Calls _ _ _ (World.alloc (World.alloc w _) _) _
        generalize World.alloc (World.alloc w (.cells #[.int .i64 k, .slice an a.names.length cn, .slice aa a.args.length ca] 25)) (.cells #[.int .i64 k', .slice bn b.names.length dn, .slice bb b.args.length db] 25) = w1 at HBW HH0 HH1 ⊢
        generalize hA : w.heap.size = B0 at HH0 HH1 ⊢
        have HAz := Lib.hid hA
        clear hA
        have HAf : Hid (∀ W, Below w1.heap.size w1 W → (W.cell? ⟨B0, 0, none⟩ = some (.int .i64 k) ∧ W.cell? ⟨B0, 1, none⟩ = some (.slice an a.names.length cn) ∧ W.cell? ⟨B0, 2, none⟩ = some (.slice aa a.args.length ca) ∧ W.cell? ⟨B0 + 1, 0, none⟩ = some (.int .i64 k') ∧ W.cell? ⟨B0 + 1, 1, none⟩ = some (.slice bn b.names.length dn) ∧ W.cell? ⟨B0 + 1, 2, none⟩ = some (.slice bb b.args.length db) ∧ B0 < W.heap.size ∧ B0 + 1 < W.heap.size) ∧ Below w.heap.size w W) := Lib.hid (fun W h => by
          have h0 := HH0.out.below h HH0.out.lt
          have h1 := HH1.out.below h HH1.out.lt
          exact ⟨⟨h0.cell 0, h0.cell 1, h0.cell 2, h1.cell 0, h1.cell 1, h1.cell 2, h0.lt, h1.lt⟩, HBW.out.trans (h.mono HBW.out.size)⟩)
        refine (HFa.out _ HBW.out).mono ?_
        rintro e W0 ⟨rfl, hb2⟩
        have HB0 := Lib.hid hb2
        clear hb2
        obtain ⟨⟨x0, x1, x2, y0, y1, y2, lA, lB⟩, -⟩ := HAf.out W0 HB0.out
        go_wp2
        clear x0 x1 x2 y0 y1 y2 lA lB
        have hS0 := HAf.out W0 HB0.out
        have HW : Hid (∀ W, Below W0.heap.size W0 W → (fun W' => W'.cell? ⟨B0, 0, none⟩ = some (.int .i64 k) ∧ W'.cell? ⟨B0, 1, none⟩ = some (.slice an a.names.length cn) ∧ W'.cell? ⟨B0, 2, none⟩ = some (.slice aa a.args.length ca) ∧ W'.cell? ⟨B0 + 1, 0, none⟩ = some (.int .i64 k') ∧ W'.cell? ⟨B0 + 1, 1, none⟩ = some (.slice bn b.names.length dn) ∧ W'.cell? ⟨B0 + 1, 2, none⟩ = some (.slice bb b.args.length db)) W ∧ Below w.heap.size w W) := Lib.hid (fun W h => by
          obtain ⟨⟨g0, g1, g2, g3, g4, g5, g6, g7⟩, g8⟩ := HAf.out W (HB0.out.trans (h.mono HB0.out.size))
          exact ⟨⟨g0, g1, g2, g3, g4, g5⟩, g8⟩)
        obtain ⟨⟨x0, x1, x2, y0, y1, y2, lA, lB⟩, -⟩ := hS0
        first | (go_region_held3 (fun W' => W'.cell? ⟨B0, 0, none⟩ = some (.int .i64 k) ∧ W'.cell? ⟨B0, 1, none⟩ = some (.slice an a.names.length cn) ∧ W'.cell? ⟨B0, 2, none⟩ = some (.slice aa a.args.length ca) ∧ W'.cell? ⟨B0 + 1, 0, none⟩ = some (.int .i64 k') ∧ W'.cell? ⟨B0 + 1, 1, none⟩ = some (.slice bn b.names.length dn) ∧ W'.cell? ⟨B0 + 1, 2, none⟩ = some (.slice bb b.args.length db))
          (first | exact (HW.out _ (Below.refl _ _).drew).1 | exact (HW.out _ p3).1 | exact (HW.out _ p2).1 | exact (HW.out _ p1).1 | skip)
          (first
                  | (go_at_call 43
                     refine (HFb.out _ (HW.out _ (Below.refl _ _).drew).2).mono ?_
                     rintro e w5 ⟨rfl, hb5⟩
                     have p1 := ((Below.refl W0.heap.size W0).drew).trans hb5)
                  | (go_at_call 45
                     with_reducible refine (HKa.out _ (HW.out _ p1).2).mono ?_
                     rintro e w6 ⟨rfl, hb6⟩
                     have p2 := p1.trans (hb6.mono p1.size))
                  | (go_at_call 45
                     with_reducible refine (HKb.out _ (HW.out _ p2).2).mono ?_
                     rintro e w7 ⟨rfl, hb7⟩
                     have p3 := p2.trans (hb7.mono p2.size)))) | fail
        all_goals
          go_wp2
          go_ret
          exact ⟨rfl, (HW.out _ p3).2⟩
end TyD
end Go.Proofs.YthcdbmbimdkcfaaDoor
