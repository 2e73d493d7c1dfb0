/- Ease: the document's. -/
import Derived.Test.YtjddjiggelpdnaaDoorTyREaseB
import Derived.Test.YtjddjiggelpdnaaDoorTyREaseC
namespace Go.Proofs.YtjddjiggelpdnaaDoor
open Go.RowKit ObjM
namespace TyD
open LexD (nameB WTab)

set_option maxRecDepth 100000 in
set_option maxHeartbeats 32000000 in
theorem refEase_any : ∀ (r : Nat) (a b : Ty) (vn va un ua : Value) (w : World), Ok r a → Ok r b → TyOk a → TyOk b → TyAt w vn va a → TyAt w un ua b →
    Calls Tryd.prog 36 #[.agg #[.int .i64 a.kind, vn, va], .agg #[.int .i64 b.kind, un, ua]] w (BoolB w (easeB r a b)) := by
  intro r
  induction r with
  | zero =>
    intro a b vn va un ua w hv
    cases hv.valid
  | succ r ih =>
    intro a b vn va un ua w hva hvb oka okb ha hb
    have ka := hva.kind
    have kb := hvb.kind
    have H88 := Lib.hid (fun (h8 : a.kind = 8 ∧ b.kind = 8) (hs : subB (r + 1) a b = false) => rease88 r a b vn va un ua w h8.1 h8.2 hs hva hvb oka okb ha hb)
    have H99 := Lib.hid (fun (h9 : a.kind = 9 ∧ b.kind = 9) (hl : a.args.length = b.args.length) (hs : subB (r + 1) a b = false) => rease99 r a b vn va un ua w h9.1 h9.2 hl hs hva hvb oka okb ha hb ih)
    have HSE := Lib.hid (sub_ease (r + 1) a b hva hvb)
    obtain ⟨hh0, hh1, hbw, hsz⟩ := box2 w [.int .i64 a.kind, vn, va] [.int .i64 b.kind, un, ua] 25 _ rfl
    have HTa := Lib.hid (fun (W : World) (h : Below w.heap.size w W) => ha.frame (Nat.le_refl _) h)
    have HTb := Lib.hid (fun (W : World) (h : Below w.heap.size w W) => hb.frame (Nat.le_refl _) h)
    have HSu := Lib.hid (fun (W : World) (h : Below w.heap.size w W) => refSub_any (r + 1) a b vn va un ua W hva hvb oka okb (HTa.out _ h) (HTb.out _ h))
    have HR : Hid (easeB (r + 1) a b = if a.kind = 0 ∨ b.kind = 0 then true else if a.kind = 5 ∧ b.kind = 8 then true else if a.kind = 8 ∧ b.kind = 8 then fieldsB suitsE a b else if a.kind = 9 ∧ b.kind = 9 then arrowB (easeB r) a.args b.args
      else subB (r + 1) a b) := Lib.hid rfl
    obtain ⟨R, hR⟩ : ∃ R, easeB (r + 1) a b = R := ⟨_, rfl⟩
    rw [hR] at HR H88 H99 HSE ⊢
    clear hR
    obtain ⟨q, hq⟩ : ∃ q, subB (r + 1) a b = q := ⟨_, rfl⟩
    rw [hq] at HSu HSE HR H88 H99
    clear hq
    obtain ⟨an, cn, aa, ca, rfl, rfl⟩ := ha.shape
    obtain ⟨bn, dn, bb, db, rfl, rfl⟩ := hb.shape
    have HAf : Hid (∀ W, Below (w.heap.size + 1 + 1) ((w.alloc (.cells #[.int .i64 a.kind, .slice an a.names.length cn, .slice aa a.args.length ca] 25)).alloc (.cells #[.int .i64 b.kind, .slice bn b.names.length dn, .slice bb b.args.length db] 25)) W → (W.cell? ⟨w.heap.size, 0, none⟩ = some (.int .i64 a.kind) ∧ W.cell? ⟨w.heap.size, 1, none⟩ = some (.slice an a.names.length cn) ∧ W.cell? ⟨w.heap.size, 2, none⟩ = some (.slice aa a.args.length ca) ∧ W.cell? ⟨w.heap.size + 1, 0, none⟩ = some (.int .i64 b.kind) ∧ W.cell? ⟨w.heap.size + 1, 1, none⟩ = some (.slice bn b.names.length dn) ∧ W.cell? ⟨w.heap.size + 1, 2, none⟩ = some (.slice bb b.args.length db) ∧ w.heap.size < W.heap.size ∧ w.heap.size + 1 < W.heap.size) ∧ Below w.heap.size w W) := Lib.hid (fun W h => by
      have g0 := hh0.below h (by omega)
      have g1 := hh1.below h (by omega)
      exact ⟨⟨g0.cell 0, g0.cell 1, g0.cell 2, g1.cell 0, g1.cell 1, g1.cell 2, g0.lt, g1.lt⟩, hbw.trans (h.mono (by omega))⟩)
    have HB0 : Hid (Below (w.heap.size + 1 + 1) ((w.alloc (.cells #[.int .i64 a.kind, .slice an a.names.length cn, .slice aa a.args.length ca] 25)).alloc (.cells #[.int .i64 b.kind, .slice bn b.names.length dn, .slice bb b.args.length db] 25)) ((w.alloc (.cells #[.int .i64 a.kind, .slice an a.names.length cn, .slice aa a.args.length ca] 25)).alloc (.cells #[.int .i64 b.kind, .slice bn b.names.length dn, .slice bb b.args.length db] 25))) := Lib.hid (Below.refl _ _)
    have HW0 := Lib.hid (HAf.out _ HB0.out).2
    have HSz : Hid (((w.alloc (.cells #[.int .i64 a.kind, .slice an a.names.length cn, .slice aa a.args.length ca] 25)).alloc (.cells #[.int .i64 b.kind, .slice bn b.names.length dn, .slice bb b.args.length db] 25)).heap.size = w.heap.size + 1 + 1) := Lib.hid hsz
    have HFx : Hid (∀ W W', Below (w.heap.size + 1 + 1) ((w.alloc (.cells #[.int .i64 a.kind, .slice an a.names.length cn, .slice aa a.args.length ca] 25)).alloc (.cells #[.int .i64 b.kind, .slice bn b.names.length dn, .slice bb b.args.length db] 25)) W → Below W.heap.size W W' → Below (w.heap.size + 1 + 1) ((w.alloc (.cells #[.int .i64 a.kind, .slice an a.names.length cn, .slice aa a.args.length ca] 25)).alloc (.cells #[.int .i64 b.kind, .slice bn b.names.length dn, .slice bb b.args.length db] 25)) W') := Lib.hid (fun W W' h1 h2 => h1.trans (h2.mono (by have := h1.size; rw [HSz.out] at this; exact this)))
    clear ha hb oka okb hva hvb ih hh0 hh1 hbw hsz
    by_cases a0 : a.kind = 0
    · have e0 : (a.kind == 0) = true := by simpa using a0
      have HF : Hid (R = true) := Lib.hid (by rw [HR.out, if_pos (.inl a0)])
      obtain rfl := HF.out
      clear HR
      clear a0 ka kb HSE H88 H99
      go_enter Tryd.func36, Tryd.ntmps36
      go_wp2
      go_ret
      exact ⟨rfl, HW0.out⟩
    have e0 : (a.kind == 0) = false := by simpa using a0
    by_cases b0 : b.kind = 0
    · have e1 : (b.kind == 0) = true := by simpa using b0
      have HF : Hid (R = true) := Lib.hid (by rw [HR.out, if_pos (.inr b0)])
      obtain rfl := HF.out
      clear HR
      clear a0 b0 ka kb HSE H88 H99
      go_enter Tryd.func36, Tryd.ntmps36
      go_wp2
      go_ret
      exact ⟨rfl, HW0.out⟩
    have e1 : (b.kind == 0) = false := by simpa using b0
    cases q
    · have HR2 : Hid (R = if a.kind = 5 ∧ b.kind = 8 then true else if a.kind = 8 ∧ b.kind = 8 then fieldsB suitsE a b else if a.kind = 9 ∧ b.kind = 9 then arrowB (easeB r) a.args b.args else false) := Lib.hid (by rw [HR.out, if_neg (by omega)])
      clear HR
      have HR := HR2
      clear HR2
      by_cases a5 : a.kind = 5
      · have e5 : (a.kind == 5) = true := by simpa using a5
        have e8 : (a.kind == 8) = false := by simp; omega
        have e9 : (a.kind == 9) = false := by simp; omega
        by_cases b8 : b.kind = 8
        · have f8 : (b.kind == 8) = true := by simpa using b8
          have HF : Hid (R = true) := Lib.hid (by rw [HR.out, if_pos ⟨a5, b8⟩])
          obtain rfl := HF.out
          clear HR
          clear a0 b0 a5 b8 ka kb HSE H88 H99
          go_enter Tryd.func36, Tryd.ntmps36
          go_wp2_with fail
          refine (HSu.out _ HW0.out).mono ?_
          rintro e w1 ⟨rfl, hb⟩
          have HB1 := Lib.hid (HFx.out _ _ HB0.out hb)
          obtain ⟨⟨x0, x1, x2, y0, y1, y2, lA, lB⟩, hw⟩ := HAf.out _ HB1.out
          have HW1 := Lib.hid hw
          clear hb hw
          go_wp2
          go_ret
          exact ⟨rfl, HW1.out⟩
        · have f8 : (b.kind == 8) = false := by simpa using b8
          have HF : Hid (R = false) := Lib.hid (by rw [HR.out, if_neg (by omega), if_neg (by omega), if_neg (by omega)])
          obtain rfl := HF.out
          clear HR
          clear a0 b0 a5 b8 ka kb HSE H88 H99
          go_enter Tryd.func36, Tryd.ntmps36
          go_wp2_with fail
          refine (HSu.out _ HW0.out).mono ?_
          rintro e w1 ⟨rfl, hb⟩
          have HB1 := Lib.hid (HFx.out _ _ HB0.out hb)
          obtain ⟨⟨x0, x1, x2, y0, y1, y2, lA, lB⟩, hw⟩ := HAf.out _ HB1.out
          have HW1 := Lib.hid hw
          clear hb hw
          go_wp2
          go_ret
          exact ⟨rfl, HW1.out⟩
      have e5 : (a.kind == 5) = false := by simpa using a5
      by_cases a8 : a.kind = 8
      · have e8 : (a.kind == 8) = true := by simpa using a8
        have e9 : (a.kind == 9) = false := by simp; omega
        by_cases b8 : b.kind = 8
        · exact H88.out ⟨a8, b8⟩ rfl
        · have f8 : (b.kind == 8) = false := by simpa using b8
          have HF : Hid (R = false) := Lib.hid (by rw [HR.out, if_neg (by omega), if_neg (by omega), if_neg (by omega)])
          obtain rfl := HF.out
          clear HR
          clear a0 b0 a5 a8 b8 ka kb HSE H88 H99
          go_enter Tryd.func36, Tryd.ntmps36
          go_wp2_with fail
          refine (HSu.out _ HW0.out).mono ?_
          rintro e w1 ⟨rfl, hb⟩
          have HB1 := Lib.hid (HFx.out _ _ HB0.out hb)
          obtain ⟨⟨x0, x1, x2, y0, y1, y2, lA, lB⟩, hw⟩ := HAf.out _ HB1.out
          have HW1 := Lib.hid hw
          clear hb hw
          go_wp2
          go_ret
          exact ⟨rfl, HW1.out⟩
      have e8 : (a.kind == 8) = false := by simpa using a8
      by_cases a9 : a.kind = 9
      · have e9 : (a.kind == 9) = true := by simpa using a9
        by_cases b9 : b.kind = 9
        · have f9 : (b.kind == 9) = true := by simpa using b9
          by_cases hlen : a.args.length = b.args.length
          · exact H99.out ⟨a9, b9⟩ hlen rfl
          have hln : ((a.args.length : Int) == (b.args.length : Int)) = false := by simp; omega
          have HF : Hid (R = false) := Lib.hid (by rw [HR.out, if_neg (by omega), if_neg (by omega), if_pos ⟨a9, b9⟩]; unfold arrowB; rw [decide_eq_false hlen]; rfl)
          obtain rfl := HF.out
          clear HR
          clear a0 b0 a5 a8 a9 b9 ka kb HSE H88 H99 hlen
          go_enter Tryd.func36, Tryd.ntmps36
          go_wp2_with fail
          refine (HSu.out _ HW0.out).mono ?_
          rintro e w1 ⟨rfl, hb⟩
          have HB1 := Lib.hid (HFx.out _ _ HB0.out hb)
          obtain ⟨⟨x0, x1, x2, y0, y1, y2, lA, lB⟩, hw⟩ := HAf.out _ HB1.out
          have HW1 := Lib.hid hw
          clear hb hw
          go_wp2
          go_ret
          exact ⟨rfl, HW1.out⟩
        · have f9 : (b.kind == 9) = false := by simpa using b9
          have HF : Hid (R = false) := Lib.hid (by rw [HR.out, if_neg (by omega), if_neg (by omega), if_neg (by omega)])
          obtain rfl := HF.out
          clear HR
          clear a0 b0 a5 a8 a9 b9 ka kb HSE H88 H99
          go_enter Tryd.func36, Tryd.ntmps36
          go_wp2_with fail
          refine (HSu.out _ HW0.out).mono ?_
          rintro e w1 ⟨rfl, hb⟩
          have HB1 := Lib.hid (HFx.out _ _ HB0.out hb)
          obtain ⟨⟨x0, x1, x2, y0, y1, y2, lA, lB⟩, hw⟩ := HAf.out _ HB1.out
          have HW1 := Lib.hid hw
          clear hb hw
          go_wp2
          go_ret
          exact ⟨rfl, HW1.out⟩
      have e9 : (a.kind == 9) = false := by simpa using a9
      have HF : Hid (R = false) := Lib.hid (by rw [HR.out, if_neg (by omega), if_neg (by omega), if_neg (by omega)])
      obtain rfl := HF.out
      clear HR
      clear a0 b0 a5 a8 a9 ka kb HSE H88 H99
      go_enter Tryd.func36, Tryd.ntmps36
      go_wp2_with fail
      refine (HSu.out _ HW0.out).mono ?_
      rintro e w1 ⟨rfl, hb⟩
      have HB1 := Lib.hid (HFx.out _ _ HB0.out hb)
      obtain ⟨⟨x0, x1, x2, y0, y1, y2, lA, lB⟩, hw⟩ := HAf.out _ HB1.out
      have HW1 := Lib.hid hw
      clear hb hw
      go_wp2
      go_ret
      exact ⟨rfl, HW1.out⟩
    · have HF : Hid (R = true) := Lib.hid (HSE.out rfl)
      obtain rfl := HF.out
      clear HR a0 b0 ka kb HSE H88 H99
      go_enter Tryd.func36, Tryd.ntmps36
      go_wp2_with fail
      refine (HSu.out _ HW0.out).mono ?_
      rintro e w1 ⟨rfl, hb⟩
      have HB1 := Lib.hid (HFx.out _ _ HB0.out hb)
      obtain ⟨⟨x0, x1, x2, y0, y1, y2, lA, lB⟩, hw⟩ := HAf.out _ HB1.out
      have HW1 := Lib.hid hw
      clear hb hw
      go_wp2
      go_ret
      exact ⟨rfl, HW1.out⟩
end TyD
end Go.Proofs.YtjddjiggelpdnaaDoor
