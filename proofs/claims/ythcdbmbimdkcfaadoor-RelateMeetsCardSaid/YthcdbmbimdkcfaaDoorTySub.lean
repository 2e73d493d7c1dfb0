/- Sub: the program's. -/
import Derived.Test.YthcdbmbimdkcfaaDoorTyFA
import Derived.Test.YthcdbmbimdkcfaaDoorTyKinds
import Derived.Deep.RegionHeld3
import Derived.Deep.RegionWith
namespace Go.Proofs.YthcdbmbimdkcfaaDoor
open Go.RowKit ObjM
namespace TyD
open LexD (nameB WTab)

theorem mask_fin : ∀ x y : Fin 128, decide ((BitVec.ofNat 64 x.val &&& ~~~BitVec.ofNat 64 y.val).toNat = 0) = decide (x.val &&& y.val = x.val) := by decide +kernel
theorem mask_bits {x y : Nat} (hx : x < 128) (hy : y < 128) : (bits BinOp.andNot IntKind.i64 (x : Int) (y : Int) == 0) = maskB x y := by
  have h : bits BinOp.andNot IntKind.i64 (x : Int) (y : Int) = IntKind.i64.wrap ((BitVec.ofInt 64 (x : Int) &&& ~~~BitVec.ofInt 64 (y : Int)).toNat : Nat) := rfl
  have hf := mask_fin ⟨x, hx⟩ ⟨y, hy⟩
  simp only at hf
  have e1 : BitVec.ofInt 64 (x : Int) = BitVec.ofNat 64 x := rfl
  have e2 : BitVec.ofInt 64 (y : Int) = BitVec.ofNat 64 y := rfl
  have hle : (BitVec.ofNat 64 x &&& ~~~BitVec.ofNat 64 y).toNat ≤ x := by
    rw [BitVec.toNat_and]
    refine Nat.le_trans Nat.and_le_left ?_
    rw [BitVec.toNat_ofNat]
    exact Nat.mod_le _ _
  unfold maskB
  rw [h, e1, e2, ← hf, IntKind.wrap_i64]
  generalize (BitVec.ofNat 64 x &&& ~~~BitVec.ofNat 64 y).toNat = z at hle
  rw [Bool.eq_iff_iff]
  simp
  omega
set_option maxRecDepth 100000 in
set_option maxHeartbeats 1000000 in
theorem rflat_any (t : Ty) (vn va : Value) (w : World) (h : TyAt w vn va t) : Calls Tryd.prog 43 #[.agg #[.int .i64 t.kind, vn, va]] w (BoolB w (decide (t.kind ≤ 7))) := by
  obtain ⟨an, cn, aa, ca, rfl, rfl⟩ := h.shape
  generalize t.kind = k
  clear h
  go_enter Tryd.func43, Tryd.ntmps43
  go_wp2
  go_ret
  exact ⟨rfl, (Below.refl _ _).alloc (Nat.le_refl _) _⟩
set_option maxRecDepth 100000 in
set_option maxHeartbeats 16000000 in
theorem sub_any : ∀ (r : Nat) (a b : Ty) (vn va un ua : Value) (w : World), Ok r a → Ok r b → TyOk a → TyOk b → TyAt w vn va a → TyAt w un ua b → WTab w → KTab w →
    Calls Tryd.prog 32 #[.agg #[.int .i64 a.kind, vn, va], .agg #[.int .i64 b.kind, un, ua]] w (BoolB w (subB r a b)) := by
  intro r
  induction r with
  | zero =>
    intro a b vn va un ua w hv
    cases hv.valid
  | succ r ih =>
    intro a b vn va un ua w hva hvb oka okb ha hb hT hK
    have ka := hva.kind
    have kb := hvb.kind
    obtain ⟨hh0, hh1, hbw, hsz⟩ := box2 w [.int .i64 a.kind, vn, va] [.int .i64 b.kind, un, ua] 25 _ rfl
    have HBW := Lib.hid hbw
    have HH0 := Lib.hid hh0
    have HH1 := Lib.hid hh1
    have HT := Lib.hid (fun (W : World) (h : Below w.heap.size w W) => (⟨hT.below h, hK.below h⟩ : WTab W ∧ KTab W))
    have HFi := Lib.hid (fun (h8 : a.kind = 8 ∧ b.kind = 8) (W : World) (h : Below w.heap.size w W) => fieldsSame sameV a b vn va un ua W WTab oka okb (ha.frame (Nat.le_refl _) h) (hb.frame (Nat.le_refl _) h) (hva.shape h8.1).1 (hva.shape h8.1).2.1 (hvb.shape h8.2).1
      (fun x y vn va un ua W hx hy h1 h2 h3 => same_any x y vn va un ua W (by obtain ⟨k, ns, ts⟩ := a; exact oka.parts.2.2.2.2 x hx) (by obtain ⟨k, ns, ts⟩ := b; exact okb.parts.2.2.2.2 y hy) h1 h2 h3) (fun W2 h2 => (hT.below h).below h2))
    have HAr := Lib.hid (fun (h9 : a.kind = 9) (W : World) (h : Below w.heap.size w W) => arrowSub (subB r) a b vn va un ua W (fun W => WTab W ∧ KTab W) oka okb (ha.frame (Nat.le_refl _) h) (hb.frame (Nat.le_refl _) h) (hva.func h9).2
      (fun x y vn va un ua W hxy h1 h2 h3 => ih x y vn va un ua W (by rcases hxy with ⟨hx, _⟩ | ⟨hx, _⟩; exact hva.pred x hx; exact hvb.pred x hx) (by rcases hxy with ⟨_, hy⟩ | ⟨_, hy⟩; exact hvb.pred y hy; exact hva.pred y hy)
        (by obtain ⟨k, ns, ts⟩ := a; obtain ⟨k', ns', ts'⟩ := b; rcases hxy with ⟨hx, _⟩ | ⟨hx, _⟩; exact oka.parts.2.2.2.2 x hx; exact okb.parts.2.2.2.2 x hx)
        (by obtain ⟨k, ns, ts⟩ := a; obtain ⟨k', ns', ts'⟩ := b; rcases hxy with ⟨_, hy⟩ | ⟨_, hy⟩; exact okb.parts.2.2.2.2 y hy; exact oka.parts.2.2.2.2 y hy) h1 h2 h3.1 h3.2) (fun W2 h2 => ⟨(hT.below h).below h2, (hK.below h).below h2⟩))
    have HFa := Lib.hid (fun (W : World) (h : Below w.heap.size w W) => rflat_any a vn va W (ha.frame (Nat.le_refl _) h))
    have HFb := Lib.hid (fun (W : World) (h : Below w.heap.size w W) => rflat_any b un ua W (hb.frame (Nat.le_refl _) h))
    have HKa := Lib.hid (fun (W : World) (h : Below w.heap.size w W) => kinds_any a vn va W oka (ha.frame (Nat.le_refl _) h) (hT.below h) (hK.below h))
    have HKb := Lib.hid (fun (W : World) (h : Below w.heap.size w W) => kinds_any b un ua W okb (hb.frame (Nat.le_refl _) h) (hT.below h) (hK.below h))
    have HMk : Hid ((bits BinOp.andNot IntKind.i64 (kindsC a : Int) (kindsC b : Int) == 0) = maskB (kindsV a) (kindsV b)) := Lib.hid (by
      rw [mask_bits (kindsC_lt a) (kindsC_lt b)]
      unfold kindsC
      rw [if_pos hva.check, if_pos hvb.check])
    have HR : Hid (subB (r + 1) a b = if b.kind = 0 then true else if a.kind = 0 then false else if a.kind = 8 ∧ b.kind = 8 then fieldsB sameV a b else if a.kind = 9 ∧ b.kind = 9 then arrowB (subB r) a.args b.args
      else if a.kind ≤ 8 then decide (b.kind ≤ 7) && maskB (kindsV a) (kindsV b) else false) := Lib.hid rfl
    obtain ⟨R, hR⟩ : ∃ R, subB (r + 1) a b = R := ⟨_, rfl⟩
    rw [hR] at HR ⊢
    generalize fieldsB sameV a b = rf at HFi HR
    generalize arrowB (subB r) a.args b.args = ra at HAr HR
    generalize maskB (kindsV a) (kindsV b) = rm at HMk HR
    generalize (kindsC a : Int) = xa at HKa HMk
    generalize (kindsC b : Int) = xb at HKb HMk
    obtain ⟨an, cn, aa, ca, rfl, rfl⟩ := ha.shape
    obtain ⟨bn, dn, bb, db, rfl, rfl⟩ := hb.shape
    generalize a.kind = k at *
    generalize b.kind = k' at *
    clear ha hb oka okb hva hvb ih hT hK hbw hh0 hh1 hsz hR
    by_cases b0 : k' = 0
    · subst b0
      have HF : Hid (R = true) := Lib.hid (by rw [HR.out, if_pos rfl])
      obtain rfl := HF.out
      clear HR
      go_enter Tryd.func32, Tryd.ntmps32
      go_wp2
      go_ret
      exact ⟨rfl, HBW.out⟩
    have b0b : (k' == 0) = false := by simpa using b0
    by_cases a0 : k = 0
    · subst a0
      have HF : Hid (R = false) := Lib.hid (by rw [HR.out, if_neg b0, if_pos rfl])
      obtain rfl := HF.out
      clear HR
      go_enter Tryd.func32, Tryd.ntmps32
      go_wp2
      go_ret
      exact ⟨rfl, HBW.out⟩
    have a0b : (k == 0) = false := by simpa using a0
    by_cases h88 : k = 8 ∧ k' = 8
    · have HC := Lib.hid (fun W h => HFi.out h88 W h)
      obtain ⟨rfl, rfl⟩ := h88
      have HF : Hid (R = rf) := Lib.hid (by rw [HR.out, if_neg b0, if_neg a0, if_pos ⟨rfl, rfl⟩])
      obtain rfl := HF.out
      clear HR HFi HAr HMk
      go_enter Tryd.func32, Tryd.ntmps32
      go_wp2_with fail
      refine (HC.out _ HBW.out).mono ?_
      rintro e w2 ⟨rfl, hb2⟩
      have HB2 := Lib.hid (HBW.out.trans (hb2.mono HBW.out.size))
      clear hb2
      go_wp2
      go_ret
      exact ⟨rfl, HB2.out⟩
    by_cases h99 : k = 9 ∧ k' = 9
    · have HC := Lib.hid (fun W h => HAr.out h99.1 W h)
      obtain ⟨rfl, rfl⟩ := h99
      have HF : Hid (R = ra) := Lib.hid (by rw [HR.out, if_neg b0, if_neg a0, if_neg h88, if_pos ⟨rfl, rfl⟩])
      obtain rfl := HF.out
      clear HR HFi HAr HMk h88
      go_enter Tryd.func32, Tryd.ntmps32
      go_wp2_with fail
      refine (HC.out _ HBW.out).mono ?_
      rintro e w2 ⟨rfl, hb2⟩
      have HB2 := Lib.hid (HBW.out.trans (hb2.mono HBW.out.size))
      clear hb2
      go_wp2
      go_ret
      exact ⟨rfl, HB2.out⟩
    have HR2 : Hid (R = if k ≤ 8 then decide (k' ≤ 7) && rm else false) := Lib.hid (by rw [HR.out, if_neg b0, if_neg a0, if_neg h88, if_neg h99])
    clear HR HFi HAr
    by_cases k9 : k = 9
    · subst k9
      have hk9 : (k' == 9) = false := by simp; omega
      have HF : Hid (R = false) := Lib.hid (by rw [HR2.out]; rfl)
      obtain rfl := HF.out
      clear HR2 h88 h99 HMk
      go_enter Tryd.func32, Tryd.ntmps32
      go_wp2_with fail
      refine (HFa.out _ HBW.out).mono ?_
      rintro e w2 ⟨rfl, hb2⟩
      have HB2 := Lib.hid (HBW.out.trans (hb2.mono HBW.out.size))
      clear hb2
      go_wp2
      go_ret
      exact ⟨rfl, HB2.out⟩
    have k9b : (k == 9) = false := by simpa using k9
    have HR3 : Hid (R = (decide (k' ≤ 7) && rm)) := Lib.hid (by rw [HR2.out, if_pos (by omega)])
    clear HR2
    by_cases k8 : k = 8
    · subst k8
      have hk8 : (k' == 8) = false := by simp; omega
      clear h88 h99
      obtain ⟨fb, hfb⟩ : ∃ fb, decide (k' ≤ 7) = fb := ⟨_, rfl⟩
      rw [hfb] at HFb HR3
      clear hfb HFa
      cases fb
      · have HF : Hid (R = false) := Lib.hid (by rw [HR3.out]; rfl)
        obtain rfl := HF.out
        clear HR3 HMk
        go_enter Tryd.func32, Tryd.ntmps32
        go_wp2
        change Code.wp _ _ _ _ (World.alloc (World.alloc w _) _)
        generalize World.alloc (World.alloc w (.cells #[.int .i64 8, .slice an a.names.length cn, .slice aa a.args.length ca] 25)) (.cells #[.int .i64 k', .slice bn b.names.length dn, .slice bb b.args.length db] 25) = w1 at HBW HH0 HH1 ⊢
        generalize hA : w.heap.size = B0 at HH0 HH1 ⊢
        have HAz := Lib.hid hA
        clear hA
        have HAf : Hid (∀ W, Below w1.heap.size w1 W → (W.cell? ⟨B0, 0, none⟩ = some (.int .i64 8) ∧ W.cell? ⟨B0, 1, none⟩ = some (.slice an a.names.length cn) ∧ W.cell? ⟨B0, 2, none⟩ = some (.slice aa a.args.length ca) ∧ W.cell? ⟨B0 + 1, 0, none⟩ = some (.int .i64 k') ∧ W.cell? ⟨B0 + 1, 1, none⟩ = some (.slice bn b.names.length dn) ∧ W.cell? ⟨B0 + 1, 2, none⟩ = some (.slice bb b.args.length db) ∧ B0 < W.heap.size ∧ B0 + 1 < W.heap.size) ∧ Below w.heap.size w W) := Lib.hid (fun W h => by
          have h0 := HH0.out.below h HH0.out.lt
          have h1 := HH1.out.below h HH1.out.lt
          exact ⟨⟨h0.cell 0, h0.cell 1, h0.cell 2, h1.cell 0, h1.cell 1, h1.cell 2, h0.lt, h1.lt⟩, HBW.out.trans (h.mono HBW.out.size)⟩)
        obtain ⟨W0, hW0⟩ : ∃ W0, w1 = W0 := ⟨_, rfl⟩
        have HB0 : Hid (Below w1.heap.size w1 W0) := Lib.hid (by rw [← hW0]; exact Below.refl _ _)
        rw [hW0]
        clear hW0
        have hS0 := HAf.out W0 HB0.out
        have HW : Hid (∀ W, Below W0.heap.size W0 W → (fun W' => W'.cell? ⟨B0, 0, none⟩ = some (.int .i64 8) ∧ W'.cell? ⟨B0, 1, none⟩ = some (.slice an a.names.length cn) ∧ W'.cell? ⟨B0, 2, none⟩ = some (.slice aa a.args.length ca) ∧ W'.cell? ⟨B0 + 1, 0, none⟩ = some (.int .i64 k') ∧ W'.cell? ⟨B0 + 1, 1, none⟩ = some (.slice bn b.names.length dn) ∧ W'.cell? ⟨B0 + 1, 2, none⟩ = some (.slice bb b.args.length db)) W ∧ Below w.heap.size w W) := Lib.hid (fun W h => by
          obtain ⟨⟨g0, g1, g2, g3, g4, g5, g6, g7⟩, g8⟩ := HAf.out W (HB0.out.trans (h.mono HB0.out.size))
          exact ⟨⟨g0, g1, g2, g3, g4, g5⟩, g8⟩)
        obtain ⟨⟨x0, x1, x2, y0, y1, y2, lA, lB⟩, -⟩ := hS0
        go_region_with
          (first
                  | (go_at_call 43
                     refine (HFb.out _ (HW.out _ (Below.refl _ _).drew).2).mono ?_
                     rintro e w5 ⟨rfl, hb5⟩
                     have p1 := ((Below.refl W0.heap.size W0).drew).trans hb5))
        all_goals
          go_wp2
          go_ret
          exact ⟨rfl, (HW.out _ p1).2⟩
      · have HF : Hid (R = rm) := Lib.hid (by rw [HR3.out]; rfl)
        obtain rfl := HF.out
        have hmk := HMk.out
        clear HR3 HMk
        go_enter Tryd.func32, Tryd.ntmps32
        go_wp2
        change Code.wp _ _ _ _ (World.alloc (World.alloc w _) _)
        generalize World.alloc (World.alloc w (.cells #[.int .i64 8, .slice an a.names.length cn, .slice aa a.args.length ca] 25)) (.cells #[.int .i64 k', .slice bn b.names.length dn, .slice bb b.args.length db] 25) = w1 at HBW HH0 HH1 ⊢
        generalize hA : w.heap.size = B0 at HH0 HH1 ⊢
        have HAz := Lib.hid hA
        clear hA
        have HAf : Hid (∀ W, Below w1.heap.size w1 W → (W.cell? ⟨B0, 0, none⟩ = some (.int .i64 8) ∧ W.cell? ⟨B0, 1, none⟩ = some (.slice an a.names.length cn) ∧ W.cell? ⟨B0, 2, none⟩ = some (.slice aa a.args.length ca) ∧ W.cell? ⟨B0 + 1, 0, none⟩ = some (.int .i64 k') ∧ W.cell? ⟨B0 + 1, 1, none⟩ = some (.slice bn b.names.length dn) ∧ W.cell? ⟨B0 + 1, 2, none⟩ = some (.slice bb b.args.length db) ∧ B0 < W.heap.size ∧ B0 + 1 < W.heap.size) ∧ Below w.heap.size w W) := Lib.hid (fun W h => by
          have h0 := HH0.out.below h HH0.out.lt
          have h1 := HH1.out.below h HH1.out.lt
          exact ⟨⟨h0.cell 0, h0.cell 1, h0.cell 2, h1.cell 0, h1.cell 1, h1.cell 2, h0.lt, h1.lt⟩, HBW.out.trans (h.mono HBW.out.size)⟩)
        obtain ⟨W0, hW0⟩ : ∃ W0, w1 = W0 := ⟨_, rfl⟩
        have HB0 : Hid (Below w1.heap.size w1 W0) := Lib.hid (by rw [← hW0]; exact Below.refl _ _)
        rw [hW0]
        clear hW0
        have hS0 := HAf.out W0 HB0.out
        have HW : Hid (∀ W, Below W0.heap.size W0 W → (fun W' => W'.cell? ⟨B0, 0, none⟩ = some (.int .i64 8) ∧ W'.cell? ⟨B0, 1, none⟩ = some (.slice an a.names.length cn) ∧ W'.cell? ⟨B0, 2, none⟩ = some (.slice aa a.args.length ca) ∧ W'.cell? ⟨B0 + 1, 0, none⟩ = some (.int .i64 k') ∧ W'.cell? ⟨B0 + 1, 1, none⟩ = some (.slice bn b.names.length dn) ∧ W'.cell? ⟨B0 + 1, 2, none⟩ = some (.slice bb b.args.length db)) W ∧ Below w.heap.size w W) := Lib.hid (fun W h => by
          obtain ⟨⟨g0, g1, g2, g3, g4, g5, g6, g7⟩, g8⟩ := HAf.out W (HB0.out.trans (h.mono HB0.out.size))
          exact ⟨⟨g0, g1, g2, g3, g4, g5⟩, g8⟩)
        obtain ⟨⟨x0, x1, x2, y0, y1, y2, lA, lB⟩, -⟩ := hS0
        first | (go_region_held3 (fun W' => W'.cell? ⟨B0, 0, none⟩ = some (.int .i64 8) ∧ W'.cell? ⟨B0, 1, none⟩ = some (.slice an a.names.length cn) ∧ W'.cell? ⟨B0, 2, none⟩ = some (.slice aa a.args.length ca) ∧ W'.cell? ⟨B0 + 1, 0, none⟩ = some (.int .i64 k') ∧ W'.cell? ⟨B0 + 1, 1, none⟩ = some (.slice bn b.names.length dn) ∧ W'.cell? ⟨B0 + 1, 2, none⟩ = some (.slice bb b.args.length db))
          (first | exact (HW.out _ (Below.refl _ _).drew).1 | exact (HW.out _ p3).1 | exact (HW.out _ p2).1 | exact (HW.out _ p1).1 | skip)
          (first
                  | (go_at_call 43
                     refine (HFb.out _ (HW.out _ (Below.refl _ _).drew).2).mono ?_
                     rintro e w5 ⟨rfl, hb5⟩
                     have p1 := ((Below.refl W0.heap.size W0).drew).trans hb5)
                  | (go_at_call 45
                     with_reducible refine (HKa.out _ (HW.out _ p1).2).mono ?_
                     rintro e w6 ⟨rfl, hb6⟩
                     have p2 := p1.trans (hb6.mono p1.size))
                  | (go_at_call 45
                     with_reducible refine (HKb.out _ (HW.out _ p2).2).mono ?_
                     rintro e w7 ⟨rfl, hb7⟩
                     have p3 := p2.trans (hb7.mono p2.size)))) | fail
        all_goals
          go_wp2
          go_ret
          exact ⟨rfl, (HW.out _ p3).2⟩
    · have k8b : (k == 8) = false := by simpa using k8
      have hfa : decide (k ≤ 7) = true := by simp; omega
      rw [hfa] at HFa
      clear h88 h99 hfa
      obtain ⟨fb, hfb⟩ : ∃ fb, decide (k' ≤ 7) = fb := ⟨_, rfl⟩
      rw [hfb] at HFb HR3
      clear hfb
      cases fb
      · have HF : Hid (R = false) := Lib.hid (by rw [HR3.out]; rfl)
        obtain rfl := HF.out
        clear HR3 HMk
        go_enter Tryd.func32, Tryd.ntmps32
        go_wp2_with fail
        change Calls _ _ _ (World.alloc (World.alloc w _) _) _
        generalize World.alloc (World.alloc w (.cells #[.int .i64 k, .slice an a.names.length cn, .slice aa a.args.length ca] 25)) (.cells #[.int .i64 k', .slice bn b.names.length dn, .slice bb b.args.length db] 25) = w1 at HBW HH0 HH1 ⊢
        generalize hA : w.heap.size = B0 at HH0 HH1 ⊢
        have HAz := Lib.hid hA
        clear hA
        have HAf : Hid (∀ W, Below w1.heap.size w1 W → (W.cell? ⟨B0, 0, none⟩ = some (.int .i64 k) ∧ W.cell? ⟨B0, 1, none⟩ = some (.slice an a.names.length cn) ∧ W.cell? ⟨B0, 2, none⟩ = some (.slice aa a.args.length ca) ∧ W.cell? ⟨B0 + 1, 0, none⟩ = some (.int .i64 k') ∧ W.cell? ⟨B0 + 1, 1, none⟩ = some (.slice bn b.names.length dn) ∧ W.cell? ⟨B0 + 1, 2, none⟩ = some (.slice bb b.args.length db) ∧ B0 < W.heap.size ∧ B0 + 1 < W.heap.size) ∧ Below w.heap.size w W) := Lib.hid (fun W h => by
          have h0 := HH0.out.below h HH0.out.lt
          have h1 := HH1.out.below h HH1.out.lt
          exact ⟨⟨h0.cell 0, h0.cell 1, h0.cell 2, h1.cell 0, h1.cell 1, h1.cell 2, h0.lt, h1.lt⟩, HBW.out.trans (h.mono HBW.out.size)⟩)
        refine (HFa.out _ HBW.out).mono ?_
        rintro e W0 ⟨rfl, hb2⟩
        have HB0 := Lib.hid hb2
        clear hb2
        obtain ⟨⟨x0, x1, x2, y0, y1, y2, lA, lB⟩, -⟩ := HAf.out W0 HB0.out
        go_wp2
        clear x0 x1 x2 y0 y1 y2 lA lB
        have hS0 := HAf.out W0 HB0.out
        have HW : Hid (∀ W, Below W0.heap.size W0 W → (fun W' => W'.cell? ⟨B0, 0, none⟩ = some (.int .i64 k) ∧ W'.cell? ⟨B0, 1, none⟩ = some (.slice an a.names.length cn) ∧ W'.cell? ⟨B0, 2, none⟩ = some (.slice aa a.args.length ca) ∧ W'.cell? ⟨B0 + 1, 0, none⟩ = some (.int .i64 k') ∧ W'.cell? ⟨B0 + 1, 1, none⟩ = some (.slice bn b.names.length dn) ∧ W'.cell? ⟨B0 + 1, 2, none⟩ = some (.slice bb b.args.length db)) W ∧ Below w.heap.size w W) := Lib.hid (fun W h => by
          obtain ⟨⟨g0, g1, g2, g3, g4, g5, g6, g7⟩, g8⟩ := HAf.out W (HB0.out.trans (h.mono HB0.out.size))
          exact ⟨⟨g0, g1, g2, g3, g4, g5⟩, g8⟩)
        obtain ⟨⟨x0, x1, x2, y0, y1, y2, lA, lB⟩, -⟩ := hS0
        go_region_with
          (first
                  | (go_at_call 43
                     refine (HFb.out _ (HW.out _ (Below.refl _ _).drew).2).mono ?_
                     rintro e w5 ⟨rfl, hb5⟩
                     have p1 := ((Below.refl W0.heap.size W0).drew).trans hb5))
        all_goals
          go_wp2
          go_ret
          exact ⟨rfl, (HW.out _ p1).2⟩
      · have HF : Hid (R = rm) := Lib.hid (by rw [HR3.out]; rfl)
        obtain rfl := HF.out
        have hmk := HMk.out
        clear HR3 HMk
        go_enter Tryd.func32, Tryd.ntmps32
        go_wp2_with fail
        change Calls _ _ _ (World.alloc (World.alloc w _) _) _
        generalize World.alloc (World.alloc w (.cells #[.int .i64 k, .slice an a.names.length cn, .slice aa a.args.length ca] 25)) (.cells #[.int .i64 k', .slice bn b.names.length dn, .slice bb b.args.length db] 25) = w1 at HBW HH0 HH1 ⊢
        generalize hA : w.heap.size = B0 at HH0 HH1 ⊢
        have HAz := Lib.hid hA
        clear hA
        have HAf : Hid (∀ W, Below w1.heap.size w1 W → (W.cell? ⟨B0, 0, none⟩ = some (.int .i64 k) ∧ W.cell? ⟨B0, 1, none⟩ = some (.slice an a.names.length cn) ∧ W.cell? ⟨B0, 2, none⟩ = some (.slice aa a.args.length ca) ∧ W.cell? ⟨B0 + 1, 0, none⟩ = some (.int .i64 k') ∧ W.cell? ⟨B0 + 1, 1, none⟩ = some (.slice bn b.names.length dn) ∧ W.cell? ⟨B0 + 1, 2, none⟩ = some (.slice bb b.args.length db) ∧ B0 < W.heap.size ∧ B0 + 1 < W.heap.size) ∧ Below w.heap.size w W) := Lib.hid (fun W h => by
          have h0 := HH0.out.below h HH0.out.lt
          have h1 := HH1.out.below h HH1.out.lt
          exact ⟨⟨h0.cell 0, h0.cell 1, h0.cell 2, h1.cell 0, h1.cell 1, h1.cell 2, h0.lt, h1.lt⟩, HBW.out.trans (h.mono HBW.out.size)⟩)
        refine (HFa.out _ HBW.out).mono ?_
        rintro e W0 ⟨rfl, hb2⟩
        have HB0 := Lib.hid hb2
        clear hb2
        obtain ⟨⟨x0, x1, x2, y0, y1, y2, lA, lB⟩, -⟩ := HAf.out W0 HB0.out
        go_wp2
        clear x0 x1 x2 y0 y1 y2 lA lB
        have hS0 := HAf.out W0 HB0.out
        have HW : Hid (∀ W, Below W0.heap.size W0 W → (fun W' => W'.cell? ⟨B0, 0, none⟩ = some (.int .i64 k) ∧ W'.cell? ⟨B0, 1, none⟩ = some (.slice an a.names.length cn) ∧ W'.cell? ⟨B0, 2, none⟩ = some (.slice aa a.args.length ca) ∧ W'.cell? ⟨B0 + 1, 0, none⟩ = some (.int .i64 k') ∧ W'.cell? ⟨B0 + 1, 1, none⟩ = some (.slice bn b.names.length dn) ∧ W'.cell? ⟨B0 + 1, 2, none⟩ = some (.slice bb b.args.length db)) W ∧ Below w.heap.size w W) := Lib.hid (fun W h => by
          obtain ⟨⟨g0, g1, g2, g3, g4, g5, g6, g7⟩, g8⟩ := HAf.out W (HB0.out.trans (h.mono HB0.out.size))
          exact ⟨⟨g0, g1, g2, g3, g4, g5⟩, g8⟩)
        obtain ⟨⟨x0, x1, x2, y0, y1, y2, lA, lB⟩, -⟩ := hS0
        first | (go_region_held3 (fun W' => W'.cell? ⟨B0, 0, none⟩ = some (.int .i64 k) ∧ W'.cell? ⟨B0, 1, none⟩ = some (.slice an a.names.length cn) ∧ W'.cell? ⟨B0, 2, none⟩ = some (.slice aa a.args.length ca) ∧ W'.cell? ⟨B0 + 1, 0, none⟩ = some (.int .i64 k') ∧ W'.cell? ⟨B0 + 1, 1, none⟩ = some (.slice bn b.names.length dn) ∧ W'.cell? ⟨B0 + 1, 2, none⟩ = some (.slice bb b.args.length db))
          (first | exact (HW.out _ (Below.refl _ _).drew).1 | exact (HW.out _ p3).1 | exact (HW.out _ p2).1 | exact (HW.out _ p1).1 | skip)
          (first
                  | (go_at_call 43
                     refine (HFb.out _ (HW.out _ (Below.refl _ _).drew).2).mono ?_
                     rintro e w5 ⟨rfl, hb5⟩
                     have p1 := ((Below.refl W0.heap.size W0).drew).trans hb5)
                  | (go_at_call 45
                     with_reducible refine (HKa.out _ (HW.out _ p1).2).mono ?_
                     rintro e w6 ⟨rfl, hb6⟩
                     have p2 := p1.trans (hb6.mono p1.size))
                  | (go_at_call 45
                     with_reducible refine (HKb.out _ (HW.out _ p2).2).mono ?_
                     rintro e w7 ⟨rfl, hb7⟩
                     have p3 := p2.trans (hb7.mono p2.size)))) | fail
        all_goals
          go_wp2
          go_ret
          exact ⟨rfl, (HW.out _ p3).2⟩
end TyD
end Go.Proofs.YthcdbmbimdkcfaaDoor

namespace Go.Proofs.YthcdbmbimdkcfaaDoor
open Go.RowKit ObjM
namespace TyD
open LexD (nameB WTab)

set_option maxRecDepth 100000 in
set_option maxHeartbeats 4000000 in
theorem easeFn_any (a b : Ty) (vn va un ua : Value) (w : World) (oka : TyOk a) (okb : TyOk b) (ha : TyAt w vn va a) (hb : TyAt w un ua b) (hT : WTab w) :
    Calls Tryd.prog 58 #[.agg #[.int .i64 a.kind, vn, va], .agg #[.int .i64 b.kind, un, ua]] w (BoolB w (suitsE a b)) := by
  obtain ⟨hh0, hh1, hbw, hsz⟩ := box2 w [.int .i64 a.kind, vn, va] [.int .i64 b.kind, un, ua] 25 _ rfl
  have HBW := Lib.hid hbw
  have HS := Lib.hid (fun (W : World) (h : Below w.heap.size w W) => same_any a b vn va un ua W oka okb (ha.frame (Nat.le_refl _) h) (hb.frame (Nat.le_refl _) h) (hT.below h))
  have HR : Hid (suitsE a b = (decide (a.kind = 0) || decide (b.kind = 0) || sameV a b)) := Lib.hid rfl
  generalize suitsE a b = R at HR ⊢
  generalize sameV a b = q at HR HS
  obtain ⟨an, cn, aa, ca, rfl, rfl⟩ := ha.shape
  obtain ⟨bn, dn, bb, db, rfl, rfl⟩ := hb.shape
  generalize a.kind = k at *
  generalize b.kind = k' at *
  clear ha hb oka okb hT hbw hh0 hh1 hsz
  by_cases a0 : k = 0
  · subst a0
    have HF : Hid (R = true) := Lib.hid (by rw [HR.out]; rfl)
    obtain rfl := HF.out
    clear HR
    go_enter Tryd.func58, Tryd.ntmps58
    go_wp2
    go_ret
    exact ⟨rfl, HBW.out⟩
  have a0b : (k == 0) = false := by simpa using a0
  by_cases b0 : k' = 0
  · subst b0
    have HF : Hid (R = true) := Lib.hid (by rw [HR.out]; simp)
    obtain rfl := HF.out
    clear HR
    go_enter Tryd.func58, Tryd.ntmps58
    go_wp2
    go_ret
    exact ⟨rfl, HBW.out⟩
  have b0b : (k' == 0) = false := by simpa using b0
  have HF : Hid (R = q) := Lib.hid (by rw [HR.out, decide_eq_false a0, decide_eq_false b0]; rfl)
  obtain rfl := HF.out
  clear HR a0 b0
  cases R
  all_goals
    go_enter Tryd.func58, Tryd.ntmps58
    go_wp2_with fail
    refine (HS.out _ HBW.out).mono ?_
    rintro e w2 ⟨rfl, hb2⟩
    have HB2 := Lib.hid (HBW.out.trans (hb2.mono HBW.out.size))
    clear hb2
    go_wp2
    go_ret
    exact ⟨rfl, HB2.out⟩
set_option maxRecDepth 100000 in
set_option maxHeartbeats 16000000 in
theorem fieldsEase (p : Ty → Ty → Bool) (a b : Ty) (vn va un ua : Value) (w : World) (S : World → Prop) (oka : TyOk a) (okb : TyOk b) (ha : TyAt w vn va a) (hb : TyAt w un ua b)
    (hla : a.names.length = a.args.length) (hra : risingB a.names = true) (hlb : b.names.length = b.args.length)
    (hf : ∀ (x y : Ty) (vn va un ua : Value) (W : World), x ∈ a.args → y ∈ b.args → TyAt W vn va x → TyAt W un ua y → S W → Calls Tryd.prog 58 #[.agg #[.int .i64 x.kind, vn, va], .agg #[.int .i64 y.kind, un, ua]] W (BoolB W (p x y)))
    (hS : ∀ W, Below w.heap.size w W → S W) :
    Calls Tryd.prog 54 #[.agg #[.int .i64 a.kind, vn, va], .agg #[.int .i64 b.kind, un, ua], .func (.func 58) #[] #[]] w (BoolB w (fieldsB p a b)) := by
  obtain ⟨k, ns, ts⟩ := a
  obtain ⟨k', ns', ts'⟩ := b
  obtain ⟨hn, ht⟩ := ha.parts
  obtain ⟨hn', ht'⟩ := hb.parts
  obtain ⟨_, ok1, _, ok3, _⟩ := oka.parts
  obtain ⟨_, ok1', ok2', ok3', _⟩ := okb.parts
  change Calls _ _ #[.agg #[.int .i64 k, vn, va], .agg #[.int .i64 k', un, ua], _] w _
  change ns.length = ts.length at hla
  change risingB ns = true at hra
  change ns'.length = ts'.length at hlb
  obtain ⟨hh0, hh1, hbw, hsz⟩ := box2 w [.int .i64 k, vn, va] [.int .i64 k', un, ua] 25 _ rfl
  have HN' := Lib.hid (fun (W : World) (h : Below w.heap.size w W) => hn'.below (Nat.le_refl _) h)
  have HT := Lib.hid (fun (W : World) (h : Below w.heap.size w W) => ht.below (Nat.le_refl _) h)
  have HT' := Lib.hid (fun (W : World) (h : Below w.heap.size w W) => ht'.below (Nat.le_refl _) h)
  have HFi := Lib.hid (fun (s : ByteArray) (W : World) (h : Below w.heap.size w W) => search_any ns s vn W (hn.below (Nat.le_refl _) h) ok1 hra)
  have HS := Lib.hid hS
  have HPi := Lib.hid (fun (s : ByteArray) (h : s ∈ ns) => pos_in hra h)
  have HFn := Lib.hid hf
  have HLk : Hid (∀ (i : Nat) (s : ByteArray) (x : Ty), ns[i]? = some s → ts[i]? = some x → look (.mk k ns ts) s = some x) := Lib.hid (fun i s x h1 h2 => look_of (a := .mk k ns ts) hra (by
    refine List.mem_of_getElem? (i := i) ?_
    rw [List.getElem?_zip_eq_some]
    exact ⟨h1, h2⟩))
  have HNo : Hid (∀ s : ByteArray, s ∉ ns → look (.mk k ns ts) s = none) := Lib.hid (fun s h => by
    cases e : look (.mk k ns ts) s with
    | none => rfl
    | some x => exact absurd (zip_mem2 (look_mem e)).1 h)
  have HR : Hid (fieldsB p (.mk k ns ts) (.mk k' ns' ts') = ((ns'.drop 0).zip (ts'.drop 0)).all fun x => match look (.mk k ns ts) x.1 with | none => false | some y => p y x.2) := Lib.hid rfl
  generalize fieldsB p (.mk k ns ts) (.mk k' ns' ts') = R at HR ⊢
  generalize Ty.mk k ns ts = A at HLk HNo HR
  obtain ⟨an, cn, rfl⟩ := hn.shape
  obtain ⟨bn, dn, rfl⟩ := hn'.shape
  obtain ⟨at_, ct, rfl⟩ := ht.shape
  obtain ⟨bt, dt, rfl⟩ := ht'.shape
  have HBW := Lib.hid hbw
  have HH0 := Lib.hid hh0
  have HH1 := Lib.hid hh1
  obtain ⟨q, hq⟩ : ∃ q, ns.length = q := ⟨_, rfl⟩
  obtain ⟨m, hm⟩ : ∃ m, ns'.length = m := ⟨_, rfl⟩
  have HLq := Lib.hid hq
  have HLq2 := Lib.hid (hla.symm.trans hq)
  have HLm := Lib.hid hm
  have HLm2 := Lib.hid (hlb.symm.trans hm)
  rw [hq] at HBW HH0 HH1 HFi ok1 ⊢
  rw [hm] at HBW HH0 HH1 HN' ok1' ⊢
  rw [hla.symm.trans hq] at HBW HH0 HH1 HT ok3 ⊢
  rw [hlb.symm.trans hm] at HBW HH0 HH1 HT' ok3' ⊢
  have hqi : (q : Int) ≤ 140737488355328 := by omega
  have hmi : (m : Int) ≤ 140737488355328 := by omega
  clear hn ht hn' ht' ha hb oka okb ok2' hf hS hbw hh0 hh1 hsz hq hm hla hlb hra
  go_enter Tryd.func54, Tryd.ntmps54
  go_wp2
  change Code.wp _ _ _ _ (World.alloc (World.alloc w _) _)
  generalize World.alloc (World.alloc w (.cells #[.int .i64 k, .slice an q cn, .slice at_ q ct] 25)) (.cells #[.int .i64 k', .slice bn m dn, .slice bt m dt] 25) = w1 at HBW HH0 HH1 ⊢
  generalize hA : w.heap.size = B0 at HH0 HH1 ⊢
  have HAz := Lib.hid hA
  clear hA
  have HAf : Hid (∀ W, Below w1.heap.size w1 W → (W.cell? ⟨B0, 1, none⟩ = some (.slice an q cn) ∧ W.cell? ⟨B0, 2, none⟩ = some (.slice at_ q ct) ∧ B0 < W.heap.size) ∧ (W.cell? ⟨B0 + 1, 1, none⟩ = some (.slice bn m dn) ∧ W.cell? ⟨B0 + 1, 2, none⟩ = some (.slice bt m dt) ∧ B0 + 1 < W.heap.size) ∧ Below w.heap.size w W) := Lib.hid (fun W h => by
    have h0 := HH0.out.below h HH0.out.lt
    have h1 := HH1.out.below h HH1.out.lt
    exact ⟨⟨h0.cell 1, h0.cell 2, h0.lt⟩, ⟨h1.cell 1, h1.cell 2, h1.lt⟩, HBW.out.trans (h.mono HBW.out.size)⟩)
  go_loopw [13] (fun i wr => ∃ j : Nat, i = .int .i64 (j : Int) ∧ j ≤ m ∧ Hid (Below w1.heap.size w1 wr) ∧ Hid (R = ((ns'.drop j).zip (ts'.drop j)).all fun x => match look A x.1 with | none => false | some y => p y x.2)) (fun i _ => m - (intOf i).toNat)
  case atStart => exact ⟨0, rfl, by omega, Lib.hid (Below.refl _ _), HR⟩
  case round =>
    obtain ⟨j, rfl, hj, HB, HD⟩ := hrel
    obtain ⟨⟨x1, x2, lA⟩, ⟨y1, y2, lB⟩, hbr⟩ := HAf.out _ HB.out
    have HBr := Lib.hid hbr
    clear hbr
    by_cases hlt : j < m
    · have hi1 : (j : Int) < (m : Int) := by omega
      have hjn : j < ns'.length := by rw [HLm.out]; exact hlt
      have hjt : j < ts'.length := by rw [HLm2.out]; exact hlt
      have HD2 := Lib.hid (zipDrop_all (f := fun x => match look A x.1 with | none => false | some y => p y x.2) hjn hjt)
      obtain ⟨bs, os, rfl, hbs, c0⟩ := (HN'.out _ HBr.out).at j hjn
      obtain ⟨bb, ob, un, ub, rfl, hbb, d0, d1, d2, d3⟩ := (HT'.out _ HBr.out).at j hjt
      have HY := Lib.hid (fun (W : World) (hb : Below wr.heap.size wr W) => d3.frame (Nat.le_refl _) hb)
      have HFx := Lib.hid (fun (W : World) (h : Below w.heap.size w W) => HFi.out ns'[j] W h)
      have HFnj := Lib.hid (fun (x : Ty) (vn va un ua : Value) (W : World) (hx : x ∈ ts) (h1 : TyAt W vn va x) (h2 : TyAt W un ua ts'[j]) (h3 : S W) => HFn.out x ts'[j] vn va un ua W hx (List.getElem_mem hjt) h1 h2 h3)
      obtain ⟨bn2, dn2, bb2, db2, rfl, rfl⟩ := d3.shape
      have HAj := Lib.hid (fun (W : World) (h : Below wr.heap.size wr W) => HAf.out W (HB.out.trans (h.mono HB.out.size)))
      generalize ts'[j] = y at HD2 d0 d1 d2 d3 HFnj HY
      generalize ns'[j] = s at HD2 c0 HFx
      clear d3 hjn hjt
      go_wp2
      go_quiet ((go_at_call 73; with_reducible exact quiet_left (HFx.out _ (drewN_below HBr.out _))))
      have hb3r : Below wr.heap.size wr (wr.drewN nq) := drewN_below (Below.refl _ _) nq
      generalize World.drewN wr nq = w3 at hb3r ⊢
      obtain ⟨z, hz⟩ : ∃ z, hasN ns s = z := ⟨_, rfl⟩
      have hz1 := HPi.out s
      have hz2 : z = false → s ∉ ns := fun h => hasN_no.1 (hz.trans h)
      have hz3 : z = true → s ∈ ns := fun h => hasN_iff.1 (hz.trans h)
      rw [hz]
      obtain ⟨⟨p1, p2, mA⟩, ⟨q1, q2, mB⟩, hbr3⟩ := HAj.out w3 hb3r
      have HB3 := Lib.hid (HB.out.trans (hb3r.mono HB.out.size))
      have HB3r := Lib.hid hbr3
      have e0 := (hb3r.cell (p := ⟨bb, ob + j * 3, none⟩) hbb).trans d0
      have e1 := (hb3r.cell (p := ⟨bb, ob + j * 3 + 1, none⟩) hbb).trans d1
      have e2 := (hb3r.cell (p := ⟨bb, ob + j * 3 + 2, none⟩) hbb).trans d2
      have hbb3 := Nat.lt_of_lt_of_le hbb hb3r.size
      have HY3 := Lib.hid (HY.out w3 hb3r)
      cases z
      · have hno := HNo.out s (hz2 rfl)
        have HF : Hid (R = false) := Lib.hid (by rw [HD.out, HD2.out]; simp only [hno]; rfl)
        obtain rfl := HF.out
        clear HD HD2 HR hz hz1 hz2 hz3 hno hb3r hbr3
        go_wp2
        go_quiet (fail)
        go_wp2
        go_ret
        exact ⟨rfl, drewN_below HB3r.out _⟩
      · have hsi := hz1 (hz3 rfl)
        obtain ⟨i, hi9⟩ : ∃ i, posV ns s = i := ⟨_, rfl⟩
        rw [hi9] at hsi ⊢
        have hil : i < ns.length := (List.getElem?_eq_some_iff.1 hsi).1
        have hit : i < ts.length := by rw [HLq2.out, ← HLq.out]; exact hil
        have hiq : (i : Int) < (q : Int) := by have := HLq.out; omega
        obtain ⟨ba, oa, vn, va, rfl, hba, g0, g1, g2, g3⟩ := (HT.out _ HB3r.out).at i hit
        have hlk := HLk.out i s ts[i] hsi (List.getElem?_eq_getElem hit)
        have HD3 : Hid (R = (p ts[i] y && ((ns'.drop (j + 1)).zip (ts'.drop (j + 1))).all fun x => match look A x.1 with | none => false | some y => p y x.2)) := Lib.hid (by rw [HD.out, HD2.out]; simp only [hlk])
        have hdw : Below w3.heap.size w3 w3.drew := (Below.refl _ _).drew
        have HC := Lib.hid (HFnj.out ts[i] vn va _ _ w3.drew (List.getElem_mem hit) (g3.frame (Nat.le_refl _) hdw) (HY3.out.frame (Nat.le_refl _) hdw) (HS.out _ (HB3r.out.drew)))
        obtain ⟨an2, cn2, ab2, cb2, rfl, rfl⟩ := g3.shape
        generalize ts[i] = x at g0 g1 g2 g3 HC HD3 hlk
        clear hz
        obtain ⟨z, hz⟩ : ∃ z, p x y = z := ⟨_, rfl⟩
        rw [hz] at HC HD3
        clear HD HD2 hz1 hz2 hz3 hsi hil hit hlk g3 hz hb3r hbr3 hdw hi9
        go_wp2
        go_still_tail 14, (by kernel_rfl)
        change wpList _ _ _ _ _ w3.drew
        go_wp2_with fail
        refine (HC.out).mono ?_
        rintro e w4 ⟨rfl, hb4⟩
        have HB4 := Lib.hid (HB3.out.drew.trans (hb4.mono HB3.out.drew.size))
        have HB4r := Lib.hid (HAf.out _ HB4.out).2.2
        clear hb4
        cases z
        · have HF : Hid (R = false) := Lib.hid (by rw [HD3.out]; rfl)
          obtain rfl := HF.out
          clear HD3 HR
          go_wp2
          go_ret
          exact ⟨rfl, HB4r.out⟩
        · have HD4 : Hid (R = ((ns'.drop (j + 1)).zip (ts'.drop (j + 1))).all fun x => match look A x.1 with | none => false | some y => p y x.2) := Lib.hid (by rw [HD3.out]; rfl)
          clear HD3
          go_wp2
          go_roundw
          case rel => exact ⟨j + 1, by go_num, by omega, HB4, HD4⟩
          case measure => simp [intOf]; omega
    · have hjm : m = j := by omega
      have HF : Hid (R = true) := Lib.hid (by
        rw [HD.out, List.drop_eq_nil_of_le (by rw [HLm.out]; omega), List.drop_eq_nil_of_le (by rw [HLm2.out]; omega)]
        rfl)
      obtain rfl := HF.out
      subst hjm
      clear HR HD
      go_wp2
      go_ret
      exact ⟨rfl, HBr.out⟩
set_option maxRecDepth 100000 in
set_option maxHeartbeats 16000000 in
theorem arrowEase (p : Ty → Ty → Bool) (a b : Ty) (vn va un ua : Value) (w : World) (S : World → Prop) (oka : TyOk a) (okb : TyOk b) (ha : TyAt w vn va a) (hb : TyAt w un ua b) (hl1 : 1 ≤ a.args.length)
    (hf : ∀ (x y : Ty) (vn va un ua : Value) (W : World), (x ∈ a.args ∧ y ∈ b.args ∨ x ∈ b.args ∧ y ∈ a.args) → TyAt W vn va x → TyAt W un ua y → S W → Calls Tryd.prog 35 #[.agg #[.int .i64 x.kind, vn, va], .agg #[.int .i64 y.kind, un, ua]] W (BoolB W (p x y)))
    (hS : ∀ W, Below w.heap.size w W → S W) :
    Calls Tryd.prog 56 #[.agg #[.int .i64 a.kind, vn, va], .agg #[.int .i64 b.kind, un, ua], .func (.func 35) #[] #[]] w (BoolB w (arrowB p a.args b.args)) := by
  obtain ⟨k, ns, ts⟩ := a
  obtain ⟨k', ns', ts'⟩ := b
  obtain ⟨hn, ht⟩ := ha.parts
  obtain ⟨hn', ht'⟩ := hb.parts
  obtain ⟨_, ok1, _, ok3, _⟩ := oka.parts
  obtain ⟨_, ok1', ok2', ok3', _⟩ := okb.parts
  change Calls _ _ #[.agg #[.int .i64 k, vn, va], .agg #[.int .i64 k', un, ua], _] w (BoolB w (arrowB p ts ts'))
  change 1 ≤ ts.length at hl1
  obtain ⟨hh0, hh1, hbw, hsz⟩ := box2 w [.int .i64 k, vn, va] [.int .i64 k', un, ua] 25 _ rfl
  have HT := Lib.hid (fun (W : World) (h : Below w.heap.size w W) => ht.below (Nat.le_refl _) h)
  have HT' := Lib.hid (fun (W : World) (h : Below w.heap.size w W) => ht'.below (Nat.le_refl _) h)
  have HS := Lib.hid hS
  have HFn := Lib.hid hf
  obtain ⟨an, cn, rfl⟩ := hn.shape
  obtain ⟨bn, dn, rfl⟩ := hn'.shape
  obtain ⟨at_, ct, rfl⟩ := ht.shape
  obtain ⟨bt, dt, rfl⟩ := ht'.shape
  have HBW := Lib.hid hbw
  have HH0 := Lib.hid hh0
  have HH1 := Lib.hid hh1
  obtain ⟨R, hR⟩ : ∃ R, arrowB p ts ts' = R := ⟨_, rfl⟩
  have HR := Lib.hid hR
  rw [hR]
  obtain ⟨q, hq⟩ : ∃ q, ns.length = q := ⟨_, rfl⟩
  obtain ⟨q', hq'⟩ : ∃ q, ns'.length = q := ⟨_, rfl⟩
  rw [hq] at HBW HH0 HH1 ⊢
  rw [hq'] at HBW HH0 HH1 ⊢
  by_cases hlen : ts.length = ts'.length
  · obtain ⟨m, hm⟩ : ∃ m, ts.length = m + 1 := ⟨ts.length - 1, by omega⟩
    have hm' := hlen.symm.trans hm
    have HLm := Lib.hid hm
    have HLm' := Lib.hid hm'
    rw [hm] at HBW HH0 HH1 HT ok3 ⊢
    rw [hm'] at HBW HH0 HH1 HT' ok3' ⊢
    have hmi : (m : Int) ≤ 140737488355328 := by omega
    have hne : (((m + 1 : Nat) : Int) != ((m + 1 : Nat) : Int)) = false := by simp
    have hsub : ((m + 1 : Nat) : Int) - 1 = (m : Int) := by omega
    have HR2 : Hid (R = (((ts.dropLast.drop 0).zip (ts'.dropLast.drop 0)).all (fun x => p x.2 x.1) && p (ts.getLastD anyT) (ts'.getLastD anyT))) := Lib.hid (by
      rw [← HR.out]
      unfold arrowB
      rw [decide_eq_true hlen]
      rfl)
    clear hn ht hn' ht' ha hb oka okb ok2' ok1 ok1' hf hS hbw hh0 hh1 hsz hq hq' hlen hm hm' hl1 hR HR
    go_enter Tryd.func56, Tryd.ntmps56
    go_wp2
    change Code.wp _ _ _ _ (World.alloc (World.alloc w _) _)
    generalize World.alloc (World.alloc w (.cells #[.int .i64 k, .slice an q cn, .slice at_ (m + 1) ct] 25)) (.cells #[.int .i64 k', .slice bn q' dn, .slice bt (m + 1) dt] 25) = w1 at HBW HH0 HH1 ⊢
    generalize hA : w.heap.size = B0 at HH0 HH1 ⊢
    have HAz := Lib.hid hA
    clear hA
    have HAf : Hid (∀ W, Below w1.heap.size w1 W → (W.cell? ⟨B0, 2, none⟩ = some (.slice at_ (m + 1) ct) ∧ B0 < W.heap.size) ∧ (W.cell? ⟨B0 + 1, 2, none⟩ = some (.slice bt (m + 1) dt) ∧ B0 + 1 < W.heap.size) ∧ Below w.heap.size w W) := Lib.hid (fun W h => by
      have h0 := HH0.out.below h HH0.out.lt
      have h1 := HH1.out.below h HH1.out.lt
      exact ⟨⟨h0.cell 2, h0.lt⟩, ⟨h1.cell 2, h1.lt⟩, HBW.out.trans (h.mono HBW.out.size)⟩)
    go_loopw [21] (fun i wr => ∃ j : Nat, i = .int .i64 (j : Int) ∧ j ≤ m ∧ Hid (Below w1.heap.size w1 wr) ∧ Hid (R = (((ts.dropLast.drop j).zip (ts'.dropLast.drop j)).all (fun x => p x.2 x.1) && p (ts.getLastD anyT) (ts'.getLastD anyT)))) (fun i _ => m - (intOf i).toNat)
    case atStart => exact ⟨0, rfl, by omega, Lib.hid (Below.refl _ _), HR2⟩
    case round =>
      obtain ⟨j, rfl, hj, HB, HD⟩ := hrel
      obtain ⟨⟨x2, lA⟩, ⟨y2, lB⟩, hbr⟩ := HAf.out _ HB.out
      have HBr := Lib.hid hbr
      clear hbr
      have hdw : Below wr.heap.size wr wr.drew := (Below.refl _ _).drew
      by_cases hlt : j < m
      · have hi1 : (j : Int) < (m : Int) := by omega
        have hi2 : (j : Int) < ((m + 1 : Nat) : Int) := by omega
        have hi3 : (j : Int) < (m : Int) + 1 := by omega
        have hjt : j < ts.length := by rw [HLm.out]; omega
        have hjt' : j < ts'.length := by rw [HLm'.out]; omega
        have HD2 := Lib.hid (arrowDrop (p := p) (ts := ts) (us := ts') (j := j) (by rw [HLm.out]; omega) (by rw [HLm'.out]; omega))
        obtain ⟨ba, oa, vn, va, rfl, hba, c0, c1, c2, c3⟩ := (HT.out _ HBr.out).at j hjt
        obtain ⟨bb, ob, un, ub, rfl, hbb, d0, d1, d2, d3⟩ := (HT'.out _ HBr.out).at j hjt'
        have HC := Lib.hid (HFn.out ts'[j] ts[j] un ub vn va wr.drew (.inr ⟨List.getElem_mem hjt', List.getElem_mem hjt⟩) (d3.frame (Nat.le_refl _) hdw) (c3.frame (Nat.le_refl _) hdw) (HS.out _ HBr.out.drew))
        obtain ⟨an2, cn2, ab2, cb2, rfl, rfl⟩ := c3.shape
        obtain ⟨bn2, dn2, bb2, db2, rfl, rfl⟩ := d3.shape
        generalize ts[j] = x at HD2 c0 c1 c2 c3 HC
        generalize ts'[j] = y at HD2 d0 d1 d2 d3 HC
        obtain ⟨z, hz⟩ : ∃ z, p y x = z := ⟨_, rfl⟩
        rw [hz] at HC HD2
        clear c3 d3 hjt hjt' hz hdw
        go_wp2
        go_still_tail 11, (by kernel_rfl)
        change wpList _ _ _ _ _ wr.drew
        go_wp2_with fail
        refine (HC.out).mono ?_
        rintro e w4 ⟨rfl, hb4⟩
        have HB4 := Lib.hid (HB.out.drew.trans (hb4.mono HB.out.drew.size))
        have HB4r := Lib.hid (HAf.out _ HB4.out).2.2
        clear hb4
        cases z
        · have HF : Hid (R = false) := Lib.hid (by rw [HD.out, HD2.out]; rfl)
          obtain rfl := HF.out
          clear HD HD2 HR2
          go_wp2
          go_ret
          exact ⟨rfl, HB4r.out⟩
        · have HD4 : Hid (R = (((ts.dropLast.drop (j + 1)).zip (ts'.dropLast.drop (j + 1))).all (fun x => p x.2 x.1) && p (ts.getLastD anyT) (ts'.getLastD anyT))) := Lib.hid (by rw [HD.out, HD2.out]; rfl)
          clear HD HD2
          go_wp2
          go_roundw
          case rel => exact ⟨j + 1, by go_num, by omega, HB4, HD4⟩
          case measure => simp [intOf]; omega
      · have hjm : m = j := by omega
        subst hjm
        have hjt : m < ts.length := by rw [HLm.out]; omega
        have hjt' : m < ts'.length := by rw [HLm'.out]; omega
        have hi3 : (m : Int) < (m : Int) + 1 := by omega
        have HF : Hid (R = p ts[m] ts'[m]) := Lib.hid (by
          rw [HD.out, List.drop_eq_nil_of_le (by simp [HLm.out]), List.drop_eq_nil_of_le (by simp [HLm'.out]), last_at HLm.out, last_at HLm'.out]
          rfl)
        obtain ⟨ba, oa, vn, va, rfl, hba, c0, c1, c2, c3⟩ := (HT.out _ HBr.out).at m hjt
        obtain ⟨bb, ob, un, ub, rfl, hbb, d0, d1, d2, d3⟩ := (HT'.out _ HBr.out).at m hjt'
        have HC := Lib.hid (HFn.out ts[m] ts'[m] vn va un ub wr.drew (.inl ⟨List.getElem_mem hjt, List.getElem_mem hjt'⟩) (c3.frame (Nat.le_refl _) hdw) (d3.frame (Nat.le_refl _) hdw) (HS.out _ HBr.out.drew))
        obtain ⟨an2, cn2, ab2, cb2, rfl, rfl⟩ := c3.shape
        obtain ⟨bn2, dn2, bb2, db2, rfl, rfl⟩ := d3.shape
        generalize ts[m] = x at HF c0 c1 c2 c3 HC
        generalize ts'[m] = y at HF d0 d1 d2 d3 HC
        obtain ⟨z, hz⟩ : ∃ z, p x y = z := ⟨_, rfl⟩
        rw [hz] at HC HF
        obtain rfl := HF.out
        clear c3 d3 hjt hjt' hz hdw HD HR2
        go_wp2
        go_still_tail 11, (by kernel_rfl)
        change wpList _ _ _ _ _ wr.drew
        go_wp2_with fail
        refine (HC.out).mono ?_
        rintro e w4 ⟨rfl, hb4⟩
        have HB4 := Lib.hid (HBr.out.drew.trans (hb4.mono HBr.out.drew.size))
        clear hb4
        go_wp2
        go_ret
        exact ⟨rfl, HB4.out⟩
  · have hne : ((ts.length : Int) != (ts'.length : Int)) = true := by simp; omega
    have HF : Hid (R = false) := Lib.hid (by rw [← HR.out]; unfold arrowB; rw [decide_eq_false hlen]; rfl)
    obtain rfl := HF.out
    clear hn ht hn' ht' ha hb oka okb ok2' ok1 ok1' hf hS hbw hh0 hh1 hsz hq hq' hlen hl1 hR HR
    go_enter Tryd.func56, Tryd.ntmps56
    go_wp2
    go_ret
    exact ⟨rfl, HBW.out⟩
theorem okArg {t : Ty} (h : TyOk t) : ∀ x ∈ t.args, TyOk x := by
  obtain ⟨k, ns, ts⟩ := t
  exact h.parts.2.2.2.2
set_option maxRecDepth 100000 in
set_option maxHeartbeats 16000000 in
theorem ease_any : ∀ (r : Nat) (a b : Ty) (vn va un ua : Value) (w : World), Ok r a → Ok r b → TyOk a → TyOk b → TyAt w vn va a → TyAt w un ua b → WTab w → KTab w →
    Calls Tryd.prog 35 #[.agg #[.int .i64 a.kind, vn, va], .agg #[.int .i64 b.kind, un, ua]] w (BoolB w (easeB r a b)) := by
  intro r
  induction r with
  | zero =>
    intro a b vn va un ua w hv
    cases hv.valid
  | succ r ih =>
    intro a b vn va un ua w hva hvb oka okb ha hb hT hK
    have ka := hva.kind
    have kb := hvb.kind
    obtain ⟨hh0, hh1, hbw, hsz⟩ := box2 w [.int .i64 a.kind, vn, va] [.int .i64 b.kind, un, ua] 25 _ rfl
    have HBW := Lib.hid hbw
    have HFi := Lib.hid (fun (h8 : a.kind = 8 ∧ b.kind = 8) (W : World) (h : Below w.heap.size w W) => fieldsEase suitsE a b vn va un ua W WTab oka okb (ha.frame (Nat.le_refl _) h) (hb.frame (Nat.le_refl _) h) (hva.shape h8.1).1 (hva.shape h8.1).2.1 (hvb.shape h8.2).1
      (fun x y vn va un ua W hx hy h1 h2 h3 => easeFn_any x y vn va un ua W (okArg oka x hx) (okArg okb y hy) h1 h2 h3) (fun W2 h2 => (hT.below h).below h2))
    have HAr := Lib.hid (fun (h9 : a.kind = 9) (W : World) (h : Below w.heap.size w W) => arrowEase (easeB r) a b vn va un ua W (fun W => WTab W ∧ KTab W) oka okb (ha.frame (Nat.le_refl _) h) (hb.frame (Nat.le_refl _) h) (hva.func h9).2
      (fun x y vn va un ua W hxy h1 h2 h3 => ih x y vn va un ua W (by rcases hxy with ⟨hx, _⟩ | ⟨hx, _⟩; exact hva.pred x hx; exact hvb.pred x hx) (by rcases hxy with ⟨_, hy⟩ | ⟨_, hy⟩; exact hvb.pred y hy; exact hva.pred y hy)
        (by rcases hxy with ⟨hx, _⟩ | ⟨hx, _⟩; exact okArg oka x hx; exact okArg okb x hx)
        (by rcases hxy with ⟨_, hy⟩ | ⟨_, hy⟩; exact okArg okb y hy; exact okArg oka y hy) h1 h2 h3.1 h3.2) (fun W2 h2 => ⟨(hT.below h).below h2, (hK.below h).below h2⟩))
    have HSu := Lib.hid (fun (W : World) (h : Below w.heap.size w W) => sub_any (r + 1) a b vn va un ua W hva hvb oka okb (ha.frame (Nat.le_refl _) h) (hb.frame (Nat.le_refl _) h) (hT.below h) (hK.below h))
    have HR : Hid (easeB (r + 1) a b = if a.kind = 0 ∨ b.kind = 0 then true else if a.kind = 5 ∧ b.kind = 8 then true else if a.kind = 8 ∧ b.kind = 8 then fieldsB suitsE a b else if a.kind = 9 ∧ b.kind = 9 then arrowB (easeB r) a.args b.args
      else subB (r + 1) a b) := Lib.hid rfl
    obtain ⟨R, hR⟩ : ∃ R, easeB (r + 1) a b = R := ⟨_, rfl⟩
    rw [hR] at HR ⊢
    generalize fieldsB suitsE a b = rf at HFi HR
    generalize arrowB (easeB r) a.args b.args = ra at HAr HR
    generalize subB (r + 1) a b = rs at HSu HR
    obtain ⟨an, cn, aa, ca, rfl, rfl⟩ := ha.shape
    obtain ⟨bn, dn, bb, db, rfl, rfl⟩ := hb.shape
    generalize a.kind = k at *
    generalize b.kind = k' at *
    clear ha hb oka okb hva hvb ih hT hK hbw hh0 hh1 hsz hR
    by_cases a0 : k = 0
    · subst a0
      have HF : Hid (R = true) := Lib.hid (by rw [HR.out, if_pos (.inl rfl)])
      obtain rfl := HF.out
      clear HR
      go_enter Tryd.func35, Tryd.ntmps35
      go_wp2
      go_ret
      exact ⟨rfl, HBW.out⟩
    have a0b : (k == 0) = false := by simpa using a0
    by_cases b0 : k' = 0
    · subst b0
      have HF : Hid (R = true) := Lib.hid (by rw [HR.out, if_pos (.inr rfl)])
      obtain rfl := HF.out
      clear HR
      go_enter Tryd.func35, Tryd.ntmps35
      go_wp2
      go_ret
      exact ⟨rfl, HBW.out⟩
    have b0b : (k' == 0) = false := by simpa using b0
    have HR1 : Hid (R = if k = 5 ∧ k' = 8 then true else if k = 8 ∧ k' = 8 then rf else if k = 9 ∧ k' = 9 then ra else rs) := Lib.hid (by rw [HR.out, if_neg (by omega)])
    clear HR
    by_cases h58 : k = 5 ∧ k' = 8
    · obtain ⟨rfl, rfl⟩ := h58
      have HF : Hid (R = true) := Lib.hid (by rw [HR1.out, if_pos ⟨rfl, rfl⟩])
      obtain rfl := HF.out
      clear HR1
      go_enter Tryd.func35, Tryd.ntmps35
      go_wp2
      go_ret
      exact ⟨rfl, HBW.out⟩
    have HR2 : Hid (R = if k = 8 ∧ k' = 8 then rf else if k = 9 ∧ k' = 9 then ra else rs) := Lib.hid (by rw [HR1.out, if_neg h58])
    clear HR1
    by_cases h88 : k = 8 ∧ k' = 8
    · have HC := Lib.hid (fun W h => HFi.out h88 W h)
      obtain ⟨rfl, rfl⟩ := h88
      have HF : Hid (R = rf) := Lib.hid (by rw [HR2.out, if_pos ⟨rfl, rfl⟩])
      obtain rfl := HF.out
      clear HR2 HFi HAr h58
      go_enter Tryd.func35, Tryd.ntmps35
      go_wp2_with fail
      refine (HC.out _ HBW.out).mono ?_
      rintro e w2 ⟨rfl, hb2⟩
      have HB2 := Lib.hid (HBW.out.trans (hb2.mono HBW.out.size))
      clear hb2
      go_wp2
      go_ret
      exact ⟨rfl, HB2.out⟩
    by_cases h99 : k = 9 ∧ k' = 9
    · have HC := Lib.hid (fun W h => HAr.out h99.1 W h)
      obtain ⟨rfl, rfl⟩ := h99
      have HF : Hid (R = ra) := Lib.hid (by rw [HR2.out, if_neg h88, if_pos ⟨rfl, rfl⟩])
      obtain rfl := HF.out
      clear HR2 HFi HAr h58 h88
      go_enter Tryd.func35, Tryd.ntmps35
      go_wp2_with fail
      refine (HC.out _ HBW.out).mono ?_
      rintro e w2 ⟨rfl, hb2⟩
      have HB2 := Lib.hid (HBW.out.trans (hb2.mono HBW.out.size))
      clear hb2
      go_wp2
      go_ret
      exact ⟨rfl, HB2.out⟩
    have HF : Hid (R = rs) := Lib.hid (by rw [HR2.out, if_neg h88, if_neg h99])
    obtain rfl := HF.out
    clear HR2 HFi HAr
    have hall : ((k == 5) = false ∨ ((k == 5) = true ∧ (k' == 8) = false)) ∧ ((k == 8) = false ∨ ((k == 8) = true ∧ (k' == 8) = false)) ∧ ((k == 9) = false ∨ ((k == 9) = true ∧ (k' == 9) = false)) := by
      simp only [beq_iff_eq, beq_eq_false_iff_ne, ne_eq]
      omega
    clear h58 h88 h99
    obtain ⟨h5 | ⟨h5, h5'⟩, h8 | ⟨h8, h8'⟩, h9 | ⟨h9, h9'⟩⟩ := hall
    all_goals
      go_enter Tryd.func35, Tryd.ntmps35
      go_wp2_with fail
      refine (HSu.out _ HBW.out).mono ?_
      rintro e w2 ⟨rfl, hb2⟩
      have HB2 := Lib.hid (HBW.out.trans (hb2.mono HBW.out.size))
      clear hb2
      go_wp2
      go_ret
      exact ⟨rfl, HB2.out⟩
end TyD
end Go.Proofs.YthcdbmbimdkcfaaDoor

namespace Go.Proofs.YthcdbmbimdkcfaaDoor
open Go.RowKit ObjM
namespace TyD
open LexD (nameB WTab)

set_option maxRecDepth 100000 in
set_option maxHeartbeats 8000000 in
theorem pair_any (a b : Ty) (vn va un ua : Value) (w : World) (oka : TyOk a) (okb : TyOk b) (ha : TyAt w vn va a) (hb : TyAt w un ua b) :
    Calls Tryd.prog 59 #[.agg #[.int .i64 a.kind, vn, va], .agg #[.int .i64 b.kind, un, ua]] w (BoolB w (pairB a b)) := by
  obtain ⟨k, ns, ts⟩ := a
  obtain ⟨k', ns', ts'⟩ := b
  obtain ⟨hn, ht⟩ := ha.parts
  obtain ⟨hn', ht'⟩ := hb.parts
  obtain ⟨_, ok1, _, ok3, _⟩ := oka.parts
  obtain ⟨_, ok1', ok2', ok3', _⟩ := okb.parts
  change Calls _ _ #[.agg #[.int .i64 k, vn, va], .agg #[.int .i64 k', un, ua]] w _
  obtain ⟨hh0, hh1, hbw, hsz⟩ := box2 w [.int .i64 k, vn, va] [.int .i64 k', un, ua] 25 _ rfl
  have HBW := Lib.hid hbw
  have HE := Lib.hid (fun (W : World) (h : Below w.heap.size w W) => strsEqual_any ns ns' vn un W (hn.below (Nat.le_refl _) h) (hn'.below (Nat.le_refl _) h) ok1 ok1')
  have HR : Hid (pairB (.mk k ns ts) (.mk k' ns' ts') = ((decide (k = 8) || decide (k = 9)) && decide (k = k') && decide (ts.length = ts'.length) && decide (ns = ns'))) := Lib.hid rfl
  generalize pairB (.mk k ns ts) (.mk k' ns' ts') = R at HR ⊢
  generalize decide (ns = ns') = q at HE HR
  obtain ⟨an, cn, rfl⟩ := hn.shape
  obtain ⟨bn, dn, rfl⟩ := hn'.shape
  obtain ⟨at_, ct, rfl⟩ := ht.shape
  obtain ⟨bt, dt, rfl⟩ := ht'.shape
  generalize ns.length = p at *
  generalize ns'.length = p' at *
  generalize ts.length = m at *
  generalize ts'.length = m' at *
  clear hn hn' ht ht' ha hb oka okb hbw hh0 hh1 hsz ok2'
  by_cases k89 : k = 8 ∨ k = 9
  · by_cases hk : k = k'
    · subst hk
      have hkb : (k == k) = true := by simp
      by_cases hm : m = m'
      · subst hm
        have hmb : ((m : Int) == (m : Int)) = true := by simp
        rcases k89 with rfl | rfl
        all_goals
          have HF : Hid (R = q) := Lib.hid (by rw [HR.out]; simp)
          obtain rfl := HF.out
          clear HR
          cases R
          all_goals
            go_enter Tryd.func59, Tryd.ntmps59
            go_wp2_with fail
            refine (HE.out _ HBW.out).mono ?_
            rintro e w2 ⟨rfl, hb2⟩
            have HB2 := Lib.hid (HBW.out.trans (hb2.mono HBW.out.size))
            clear hb2
            go_wp2
            go_ret
            exact ⟨rfl, HB2.out⟩
      · have hmb : ((m : Int) == (m' : Int)) = false := by simp; omega
        have HF : Hid (R = false) := Lib.hid (by rw [HR.out, decide_eq_false hm]; simp)
        obtain rfl := HF.out
        clear HR
        rcases k89 with rfl | rfl
        all_goals
          go_enter Tryd.func59, Tryd.ntmps59
          go_wp2
          go_ret
          exact ⟨rfl, HBW.out⟩
    · have hkb : (k == k') = false := by simpa using hk
      have HF : Hid (R = false) := Lib.hid (by rw [HR.out, decide_eq_false hk]; simp)
      obtain rfl := HF.out
      clear HR
      rcases k89 with rfl | rfl
      all_goals
        go_enter Tryd.func59, Tryd.ntmps59
        go_wp2
        go_ret
        exact ⟨rfl, HBW.out⟩
  · have k8 : (k == 8) = false := by simp; omega
    have k9 : (k == 9) = false := by simp; omega
    have HF : Hid (R = false) := Lib.hid (by rw [HR.out, decide_eq_false (show ¬ k = 8 by omega), decide_eq_false (show ¬ k = 9 by omega)]; rfl)
    obtain rfl := HF.out
    clear HR
    go_enter Tryd.func59, Tryd.ntmps59
    go_wp2
    go_ret
    exact ⟨rfl, HBW.out⟩
theorem prec_drop {r : Nat} {a b : List Ty} {k : Nat} (ha : k < a.length) (hb : k < b.length) : (((a.drop k).zip (b.drop k)).all fun x => precB r x.1 x.2) = (precB r a[k] b[k] && ((a.drop (k + 1)).zip (b.drop (k + 1))).all fun x => precB r x.1 x.2) := by
  rw [List.drop_eq_getElem_cons ha, List.drop_eq_getElem_cons hb]
  rfl
set_option maxRecDepth 100000 in
set_option maxHeartbeats 16000000 in
theorem precise_any : ∀ (r : Nat) (a b : Ty) (vn va un ua : Value) (w : World), Ok r a → Ok r b → TyOk a → TyOk b → TyAt w vn va a → TyAt w un ua b → WTab w →
    Calls Tryd.prog 37 #[.agg #[.int .i64 a.kind, vn, va], .agg #[.int .i64 b.kind, un, ua]] w (BoolB w (precB r a b)) := by
  intro r
  induction r with
  | zero =>
    intro a b vn va un ua w hv
    cases hv.valid
  | succ r ih =>
    intro a b vn va un ua w hva hvb oka okb ha hb hT
    obtain ⟨hh0, hh1, hbw, hsz⟩ := box2 w [.int .i64 a.kind, vn, va] [.int .i64 b.kind, un, ua] 25 _ rfl
    have HBW := Lib.hid hbw
    have HH0 := Lib.hid hh0
    have HH1 := Lib.hid hh1
    have HPa := Lib.hid (fun (W : World) (h : Below w.heap.size w W) => pair_any a b vn va un ua W oka okb (ha.frame (Nat.le_refl _) h) (hb.frame (Nat.le_refl _) h))
    have HSa := Lib.hid (fun (W : World) (h : Below w.heap.size w W) => same_any a b vn va un ua W oka okb (ha.frame (Nat.le_refl _) h) (hb.frame (Nat.le_refl _) h) (hT.below h))
    have HT := Lib.hid (fun (W : World) (h : Below w.heap.size w W) => (show TysAt W va a.args by obtain ⟨k, ns, ts⟩ := a; exact (ha.frame (Nat.le_refl _) h).parts.2))
    have HT' := Lib.hid (fun (W : World) (h : Below w.heap.size w W) => (show TysAt W ua b.args by obtain ⟨k, ns, ts⟩ := b; exact (hb.frame (Nat.le_refl _) h).parts.2))
    have HWT := Lib.hid (fun (W : World) (h : Below w.heap.size w W) => hT.below h)
    have HIH := Lib.hid (fun (x y : Ty) (vn va un ua : Value) (W : World) (hx : x ∈ a.args) (hy : y ∈ b.args) (h1 : TyAt W vn va x) (h2 : TyAt W un ua y) (h3 : WTab W) => ih x y vn va un ua W (hva.pred x hx) (hvb.pred y hy) (okArg oka x hx) (okArg okb y hy) h1 h2 h3)
    have HR : Hid (precB (r + 1) a b = if b.kind = 0 then true else if b.kind = 5 ∧ a.kind = 8 then true else if pairB a b then (a.args.zip b.args).all fun x => precB r x.1 x.2 else sameV a b) := Lib.hid rfl
    have HPl : Hid (pairB a b = true → a.args.length = b.args.length) := Lib.hid (fun h => (pairB_iff.1 h).2.2.1)
    have ok3 : a.args.length ≤ 140737488355328 := by obtain ⟨k, ns, ts⟩ := a; exact oka.parts.2.2.2.1
    obtain ⟨R, hR⟩ : ∃ R, precB (r + 1) a b = R := ⟨_, rfl⟩
    rw [hR] at HR ⊢
    generalize sameV a b = qs at HSa HR
    generalize pairB a b = qp at HPa HR HPl
    obtain ⟨an, cn, aa, ca, rfl, rfl⟩ := ha.shape
    obtain ⟨bn, dn, bb, db, rfl, rfl⟩ := hb.shape
    generalize a.kind = k at *
    generalize b.kind = k' at *
    clear ha hb oka okb hva hvb ih hT hbw hh0 hh1 hsz hR
    by_cases b0 : k' = 0
    · subst b0
      have HF : Hid (R = true) := Lib.hid (by rw [HR.out, if_pos rfl])
      obtain rfl := HF.out
      clear HR
      go_enter Tryd.func37, Tryd.ntmps37
      go_wp2
      go_ret
      exact ⟨rfl, HBW.out⟩
    have b0b : (k' == 0) = false := by simpa using b0
    by_cases h58 : k' = 5 ∧ k = 8
    · obtain ⟨rfl, rfl⟩ := h58
      have HF : Hid (R = true) := Lib.hid (by rw [HR.out, if_neg b0, if_pos ⟨rfl, rfl⟩])
      obtain rfl := HF.out
      clear HR
      go_enter Tryd.func37, Tryd.ntmps37
      go_wp2
      go_ret
      exact ⟨rfl, HBW.out⟩
    have hall : (k' == 5) = false ∨ ((k' == 5) = true ∧ (k == 8) = false) := by
      simp only [beq_iff_eq, beq_eq_false_iff_ne, ne_eq]
      omega
    have HR2 : Hid (R = if qp then (a.args.zip b.args).all fun x => precB r x.1 x.2 else qs) := Lib.hid (by rw [HR.out, if_neg b0, if_neg h58])
    have HAf : Hid (∀ W W1, Below W1.heap.size W1 W → Has W1 w.heap.size 25 [.int .i64 k, .slice an a.names.length cn, .slice aa a.args.length ca] → Has W1 (w.heap.size + 1) 25 [.int .i64 k', .slice bn b.names.length dn, .slice bb b.args.length db] → Below w.heap.size w W1 →
        (W.cell? ⟨w.heap.size, 0, none⟩ = some (.int .i64 k) ∧ W.cell? ⟨w.heap.size, 1, none⟩ = some (.slice an a.names.length cn) ∧ W.cell? ⟨w.heap.size, 2, none⟩ = some (.slice aa a.args.length ca) ∧ w.heap.size < W.heap.size) ∧
        (W.cell? ⟨w.heap.size + 1, 0, none⟩ = some (.int .i64 k') ∧ W.cell? ⟨w.heap.size + 1, 1, none⟩ = some (.slice bn b.names.length dn) ∧ W.cell? ⟨w.heap.size + 1, 2, none⟩ = some (.slice bb b.args.length db) ∧ w.heap.size + 1 < W.heap.size) ∧
        (Has W w.heap.size 25 [.int .i64 k, .slice an a.names.length cn, .slice aa a.args.length ca] ∧ Has W (w.heap.size + 1) 25 [.int .i64 k', .slice bn b.names.length dn, .slice bb b.args.length db] ∧ Below w.heap.size w W)) := Lib.hid (fun W W1 hb h0 h1 hw => by
      have g0 := h0.below hb h0.lt
      have g1 := h1.below hb h1.lt
      exact ⟨⟨g0.cell 0, g0.cell 1, g0.cell 2, g0.lt⟩, ⟨g1.cell 0, g1.cell 1, g1.cell 2, g1.lt⟩, g0, g1, hw.trans (hb.mono hw.size)⟩)
    clear HR h58 b0
    cases qp
    · have HF : Hid (R = qs) := Lib.hid HR2.out
      obtain rfl := HF.out
      clear HR2
      rcases hall with h5 | ⟨h5, h5'⟩
      all_goals
        go_enter Tryd.func37, Tryd.ntmps37
        go_wp2_with fail
        refine (HPa.out _ HBW.out).mono ?_
        rintro e w2 ⟨rfl, hb2⟩
        obtain ⟨⟨x0, x1, x2, lA⟩, ⟨y0, y1, y2, lB⟩, -, -, hbr⟩ := HAf.out w2 _ hb2 HH0.out HH1.out HBW.out
        have HB2 := Lib.hid hbr
        clear hb2 hbr
        go_wp2_with fail
        refine (HSa.out _ HB2.out).mono ?_
        rintro e w3 ⟨rfl, hb3⟩
        have HB3 := Lib.hid (HB2.out.trans (hb3.mono HB2.out.size))
        clear hb3
        go_wp2
        go_ret
        exact ⟨rfl, HB3.out⟩
    · have hlen := HPl.out rfl
      obtain ⟨m, hm⟩ : ∃ m, a.args.length = m := ⟨_, rfl⟩
      have hm' : b.args.length = m := by omega
      have HM := Lib.hid (⟨hm, hm'⟩ : _ ∧ _)
      have HF : Hid (R = ((a.args.drop 0).zip (b.args.drop 0)).all fun x => precB r x.1 x.2) := Lib.hid HR2.out
      rw [hm] at ok3
      clear HR2 hlen hm hm' HPl
      have hmi : (m : Int) ≤ 140737488355328 := by omega
      rcases hall with h5 | ⟨h5, h5'⟩
      all_goals
        go_enter Tryd.func37, Tryd.ntmps37
        go_wp2_with fail
        refine (HPa.out _ HBW.out).mono ?_
        rintro e w2 ⟨rfl, hb2⟩
        obtain ⟨⟨x0, x1, x2, lA⟩, ⟨y0, y1, y2, lB⟩, g0, g1, hbr⟩ := HAf.out w2 _ hb2 HH0.out HH1.out HBW.out
        have HG0 := Lib.hid g0
        have HG1 := Lib.hid g1
        have HB2 := Lib.hid hbr
        have HBr := Lib.hid (Below.refl w2.heap.size w2)
        clear hb2 g0 g1 hbr
        rw [HM.out.1] at x2
        rw [HM.out.2] at y2
        rw [HM.out.1, HM.out.2]
        go_wp2
        clear x0 x1 x2 lA y0 y1 y2 lB
        go_loopw [30] (fun i wr => ∃ j : Nat, i = .int .i64 (j : Int) ∧ j ≤ m ∧ Hid (Below w2.heap.size w2 wr) ∧ Hid (R = ((a.args.drop j).zip (b.args.drop j)).all fun x => precB r x.1 x.2)) (fun i _ => m - (intOf i).toNat)
        case atStart => exact ⟨0, rfl, by omega, HBr, HF⟩
        case round =>
          obtain ⟨j, rfl, hj, HB, HD⟩ := hrel
          obtain ⟨⟨x0, x1, x2, lA⟩, ⟨y0, y1, y2, lB⟩, -, -, hbr⟩ := HAf.out _ _ HB.out HG0.out HG1.out HB2.out
          have HBw := Lib.hid hbr
          rw [HM.out.1] at x2
          rw [HM.out.2] at y2
          clear hbr
          by_cases hlt : j < m
          · have hi1 : (j : Int) < (m : Int) := by omega
            have hja : j < a.args.length := by rw [HM.out.1]; exact hlt
            have hjb : j < b.args.length := by rw [HM.out.2]; exact hlt
            have HD2 := Lib.hid (prec_drop (r := r) hja hjb)
            have hTa := HT.out _ HBw.out
            have hTb := HT'.out _ HBw.out
            rw [HM.out.1] at hTa
            rw [HM.out.2] at hTb
            obtain ⟨ba, oa, vn, va, rfl, hba, c0, c1, c2, c3⟩ := hTa.at j hja
            obtain ⟨bb, ob, un, ub, rfl, hbb, d0, d1, d2, d3⟩ := hTb.at j hjb
            have hdw : Below wr.heap.size wr wr.drew := (Below.refl _ _).drew
            have HC := Lib.hid (HIH.out a.args[j] b.args[j] vn va un ub wr.drew (List.getElem_mem hja) (List.getElem_mem hjb) (c3.frame (Nat.le_refl _) hdw) (d3.frame (Nat.le_refl _) hdw) (HWT.out _ HBw.out.drew))
            obtain ⟨an2, cn2, ab2, cb2, rfl, rfl⟩ := c3.shape
            obtain ⟨bn2, dn2, bb2, db2, rfl, rfl⟩ := d3.shape
            generalize a.args[j] = x at HD2 c0 c1 c2 c3 HC
            generalize b.args[j] = y at HD2 d0 d1 d2 d3 HC
            obtain ⟨z, hz⟩ : ∃ z, precB r x y = z := ⟨_, rfl⟩
            rw [hz] at HC HD2
            clear c3 d3 hja hjb hz hdw hTa hTb
            go_wp2
            go_still_tail 10, (by kernel_rfl)
            change wpList _ _ _ _ _ wr.drew
            go_wp2_with fail
            refine (HC.out).mono ?_
            rintro e w4 ⟨rfl, hb4⟩
            have HB4 := Lib.hid (HB.out.drew.trans (hb4.mono HB.out.drew.size))
            have HB4r := Lib.hid (HBw.out.drew.trans (hb4.mono HBw.out.drew.size))
            clear hb4
            cases z
            · have HE : Hid (R = false) := Lib.hid (by rw [HD.out, HD2.out]; rfl)
              obtain rfl := HE.out
              clear HD HD2 HF
              go_wp2
              go_ret
              exact ⟨rfl, HB4r.out⟩
            · have HD4 : Hid (R = ((a.args.drop (j + 1)).zip (b.args.drop (j + 1))).all fun x => precB r x.1 x.2) := Lib.hid (by rw [HD.out, HD2.out]; rfl)
              clear HD HD2
              go_wp2
              go_roundw
              case rel => exact ⟨j + 1, by go_num, by omega, HB4, HD4⟩
              case measure => simp [intOf]; omega
          · have hjm : m = j := by omega
            have HE : Hid (R = true) := Lib.hid (by
              rw [HD.out, List.drop_eq_nil_of_le (by rw [HM.out.1]; omega), List.drop_eq_nil_of_le (by rw [HM.out.2]; omega)]
              rfl)
            obtain rfl := HE.out
            subst hjm
            clear HD HF
            go_wp2
            go_ret
            exact ⟨rfl, HBw.out⟩
end TyD
end Go.Proofs.YthcdbmbimdkcfaaDoor
