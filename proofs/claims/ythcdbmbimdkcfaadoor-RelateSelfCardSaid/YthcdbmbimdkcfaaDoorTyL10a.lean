/- Laws of layer 10: sides, chains, what is left open. -/
import Derived.Test.YthcdbmbimdkcfaaDoorTyAw10
namespace Go.Proofs.YthcdbmbimdkcfaaDoor
open Go.RowKit ObjM
namespace TyD
open LexD (nameB WTab)

theorem box1w (w : World) (c0 : List Value) (t : TypeId) (W : World) (hW : W = w.alloc (.cells c0.toArray t)) : Has W w.heap.size t c0 ∧ Below w.heap.size w W ∧ W.heap.size = w.heap.size + 1 := by
  subst hW
  exact ⟨Has.new w t c0, (Below.refl _ _).alloc (Nat.le_refl _) _, by simp⟩
theorem box2w (w : World) (c0 c1 : List Value) (t : TypeId) (W : World) (hW : W = (w.alloc (.cells c0.toArray t)).alloc (.cells c1.toArray t)) : Has W w.heap.size t c0 ∧ Has W (w.heap.size + 1) t c1 ∧ Below w.heap.size w W ∧ W.heap.size = w.heap.size + 1 + 1 := box2 w c0 c1 t W hW
theorem box3w (w : World) (c0 c1 c2 : List Value) (t : TypeId) (W : World) (hW : W = ((w.alloc (.cells c0.toArray t)).alloc (.cells c1.toArray t)).alloc (.cells c2.toArray t)) :
    Has W w.heap.size t c0 ∧ Has W (w.heap.size + 1) t c1 ∧ Has W (w.heap.size + 1 + 1) t c2 ∧ Below w.heap.size w W ∧ W.heap.size = w.heap.size + 1 + 1 + 1 := by
  obtain ⟨h0, h1, h2, h3⟩ := box2 w c0 c1 t _ rfl
  subst hW
  have hb : Below (w.heap.size + 1 + 1) ((w.alloc (.cells c0.toArray t)).alloc (.cells c1.toArray t)) (((w.alloc (.cells c0.toArray t)).alloc (.cells c1.toArray t)).alloc (.cells c2.toArray t)) := (Below.refl _ _).alloc (by rw [h3]; exact Nat.le_refl _) _
  refine ⟨h0.below hb (by omega), h1.below hb (by omega), ?_, h2.trans (hb.mono (by omega)), by simp⟩
  have := Has.new ((w.alloc (.cells c0.toArray t)).alloc (.cells c1.toArray t)) t c2
  rwa [h3] at this
theorem rows_at {W : World} {g : Nat} {ts : List Ty} {cs : List Value} {vns vas : List Value} (h : Has W g 25 cs) (hc : ∀ (i : Nat) t, ts[i]? = some t → ∃ vn va, cs[i * 3]? = some (.int .i64 t.kind) ∧ cs[i * 3 + 1]? = some vn ∧ cs[i * 3 + 2]? = some va ∧ vns[i]? = some vn ∧ vas[i]? = some va ∧ TyAt W vn va t) :
    TysAt W (.slice (some ⟨g, 0, none⟩) ts.length ts.length) ts ∨ ts.length > 9223372036854775807 := by
  by_cases hl : ts.length > 9223372036854775807
  · exact .inr hl
  · left
    refine ⟨fun i => (vns[i]?).getD (.tuple #[]), fun i => (vas[i]?).getD (.tuple #[]), ⟨_, ts.length, rfl, Nat.le_refl _, by omega, by simp, .inr ⟨g, 0, rfl, h.lt, fun i t hi => ?_⟩⟩, fun i t hi => ?_⟩
    · obtain ⟨vn, va, c0, c1, c2, c3, c4, -⟩ := hc i t hi
      simp only [c3, c4, Option.getD_some, Nat.zero_add]
      exact ⟨(h.cell _).trans c0, (h.cell _).trans c1, (h.cell _).trans c2⟩
    · obtain ⟨vn, va, c0, c1, c2, c3, c4, c5⟩ := hc i t hi
      simp only [c3, c4, Option.getD_some]
      exact c5
theorem row1_at {W : World} {g : Nat} {a : Ty} {v1 u1 : Value} (h : Has W g 25 [.int .i64 a.kind, v1, u1]) (ha : TyAt W v1 u1 a) : TysAt W (.slice (some ⟨g, 0, none⟩) 1 1) [a] := by
  rcases rows_at (ts := [a]) (vns := [v1]) (vas := [u1]) h (fun i t hi => by
    match i, hi with
    | 0, hi => simp at hi; subst hi; exact ⟨v1, u1, rfl, rfl, rfl, rfl, rfl, ha⟩
    | i + 1, hi => simp at hi) with h1 | h1
  · exact h1
  · simp at h1
theorem row2_at {W : World} {g : Nat} {a b : Ty} {v1 u1 v2 u2 : Value} (h : Has W g 25 [.int .i64 a.kind, v1, u1, .int .i64 b.kind, v2, u2]) (ha : TyAt W v1 u1 a) (hb : TyAt W v2 u2 b) : TysAt W (.slice (some ⟨g, 0, none⟩) 2 2) [a, b] := by
  rcases rows_at (ts := [a, b]) (vns := [v1, v2]) (vas := [u1, u2]) h (fun i t hi => by
    match i, hi with
    | 0, hi => simp at hi; subst hi; exact ⟨v1, u1, rfl, rfl, rfl, rfl, rfl, ha⟩
    | 1, hi => simp at hi; subst hi; exact ⟨v2, u2, rfl, rfl, rfl, rfl, rfl, hb⟩
    | i + 2, hi => simp at hi) with h1 | h1
  · exact h1
  · simp at h1
theorem row3_at {W : World} {g : Nat} {a b c : Ty} {v1 u1 v2 u2 v3 u3 : Value} (h : Has W g 25 [.int .i64 a.kind, v1, u1, .int .i64 b.kind, v2, u2, .int .i64 c.kind, v3, u3]) (ha : TyAt W v1 u1 a) (hb : TyAt W v2 u2 b) (hc : TyAt W v3 u3 c) : TysAt W (.slice (some ⟨g, 0, none⟩) 3 3) [a, b, c] := by
  rcases rows_at (ts := [a, b, c]) (vns := [v1, v2, v3]) (vas := [u1, u2, u3]) h (fun i t hi => by
    match i, hi with
    | 0, hi => simp at hi; subst hi; exact ⟨v1, u1, rfl, rfl, rfl, rfl, rfl, ha⟩
    | 1, hi => simp at hi; subst hi; exact ⟨v2, u2, rfl, rfl, rfl, rfl, rfl, hb⟩
    | 2, hi => simp at hi; subst hi; exact ⟨v3, u3, rfl, rfl, rfl, rfl, rfl, hc⟩
    | i + 3, hi => simp at hi) with h1 | h1
  · exact h1
  · simp at h1
theorem bothV_mk {a b : Ty} (ha : checkV a = true) (hb : checkV b = true) : bothV a b = true := by
  unfold bothV
  rw [ha, hb]
  rfl
theorem subT_iff {a b : Ty} : subT a b = true ↔ Ok 50 a ∧ Ok 50 b ∧ subB 50 a b = true := by
  unfold subT
  rw [Bool.and_eq_true]
  exact ⟨fun h => ⟨(both_ok h.1).1, (both_ok h.1).2, h.2⟩, fun h => ⟨bothV_mk h.1.check h.2.1.check, h.2.2⟩⟩
theorem easeT_iff {a b : Ty} : easeT a b = true ↔ Ok 50 a ∧ Ok 50 b ∧ easeB 50 a b = true := by
  unfold easeT
  rw [Bool.and_eq_true]
  exact ⟨fun h => ⟨(both_ok h.1).1, (both_ok h.1).2, h.2⟩, fun h => ⟨bothV_mk h.1.check h.2.1.check, h.2.2⟩⟩
theorem precT_iff {a b : Ty} : precT a b = true ↔ Ok 50 a ∧ Ok 50 b ∧ precB 50 a b = true := by
  unfold precT
  rw [Bool.and_eq_true]
  exact ⟨fun h => ⟨(both_ok h.1).1, (both_ok h.1).2, h.2⟩, fun h => ⟨bothV_mk h.1.check h.2.1.check, h.2.2⟩⟩
theorem sides_fact (a b : Ty) : (subT a b = true → easeT a b = true) ∧ (easeT a b = true → subT a b = false → (sideV a b = 1 ∧ vagueV a = true) ∨ (sideV a b = 2 ∧ vagueV b = true)) := by
  refine ⟨fun h => ?_, fun h h2 => ?_⟩
  · obtain ⟨ha, hb, hs⟩ := subT_iff.1 h
    exact easeT_iff.2 ⟨ha, hb, sub_ease 50 a b ha hb hs⟩
  · obtain ⟨ha, hb, he⟩ := easeT_iff.1 h
    have hs : subB 50 a b = false := by
      cases e : subB 50 a b with
      | false => rfl
      | true => rw [subT_iff.2 ⟨ha, hb, e⟩] at h2; cases h2
    have hv := ease_vague 50 a b ha hb he hs
    unfold sideV
    rw [if_pos (bothV_mk ha.check hb.check)]
    by_cases hva : vagueV a = true
    · rw [if_pos hva]
      exact .inl ⟨rfl, hva⟩
    · rw [if_neg hva]
      have hvb : vagueV b = true := by
        rcases hv with hv | hv
        · exact absurd (by unfold vagueV; rw [hv]; simp) hva
        · unfold vagueV; rw [hv]; simp
      rw [if_pos hvb]
      exact .inr ⟨rfl, hvb⟩
theorem chain_fact (a b c : Ty) : (subT a b = true → subT b c = true → subT a c = true) ∧ (precT a b = true → precT b c = true → precT a c = true) := by
  refine ⟨fun h h2 => ?_, fun h h2 => ?_⟩
  · obtain ⟨ha, hb, hs⟩ := subT_iff.1 h
    obtain ⟨_, hc, hs2⟩ := subT_iff.1 h2
    exact subT_iff.2 ⟨ha, hc, sub_trans 50 a b c ha hb hc hs hs2⟩
  · obtain ⟨ha, hb, hs⟩ := precT_iff.1 h
    obtain ⟨_, hc, hs2⟩ := precT_iff.1 h2
    exact precT_iff.2 ⟨ha, hc, prec_trans 50 a b c ha hb hc hs hs2⟩
theorem vague_fact (a b : Ty) (h : precT a b = true) : sameV a b = true ∨ (vagueV b = true ∧ precT b a = false) := by
  obtain ⟨ha, hb, hs⟩ := precT_iff.1 h
  rcases prec_vague 50 a b ha hb hs with e | e
  · exact .inl ((sameV_iff a b).2 ⟨ha.check, e⟩)
  · by_cases hab : a = b
    · exact .inl ((sameV_iff a b).2 ⟨ha.check, hab⟩)
    · right
      refine ⟨by unfold vagueV; rw [e]; simp, ?_⟩
      cases hp : precT b a with
      | false => rfl
      | true => exact absurd (prec_anti 50 a b ha hb hs (precT_iff.1 hp).2.2) hab
set_option maxRecDepth 100000 in
set_option maxHeartbeats 16000000 in
theorem sides_u (a : Ty) (vn va : Value) (b : Ty) (un ua : Value) (w : World) (oka : TyOk a) (ha : TyAt w vn va a) (okb : TyOk b) (hb : TyAt w un ua b) (hT : WTab w) (hK : KTab w) :
    Calls Tryd.prog 7 #[.agg #[.int .i64 a.kind, vn, va], .agg #[.int .i64 b.kind, un, ua]] w (BoolB w true) := by
  have HTa := Lib.hid (fun (W : World) (h : Below w.heap.size w W) => ha.frame (Nat.le_refl _) h)
  have HTb := Lib.hid (fun (W : World) (h : Below w.heap.size w W) => hb.frame (Nat.le_refl _) h)
  have HAw := Lib.hid (fun (W : World) (h : Below w.heap.size w W) => awake_any W (hT.below h) (hK.below h))
  have HSd := Lib.hid (fun (W : World) (h : Below w.heap.size w W) => side_any a b _ _ _ _ W oka okb (HTa.out _ h) (HTb.out _ h) (hT.below h))
  have HRs := Lib.hid (fun (W : World) (h : Below w.heap.size w W) => refSide_any a b _ _ _ _ W oka okb (HTa.out _ h) (HTb.out _ h))
  have HSu := Lib.hid (fun (W : World) (h : Below w.heap.size w W) => subT_any a b _ _ _ _ W oka okb (HTa.out _ h) (HTb.out _ h) (hT.below h) (hK.below h))
  have HEa := Lib.hid (fun (W : World) (h : Below w.heap.size w W) => easeT_any a b _ _ _ _ W oka okb (HTa.out _ h) (HTb.out _ h) (hT.below h) (hK.below h))
  have HVa := Lib.hid (fun (W : World) (h : Below w.heap.size w W) => refVague_any a _ _ W oka (HTa.out _ h))
  have HVb := Lib.hid (fun (W : World) (h : Below w.heap.size w W) => refVague_any b _ _ W okb (HTb.out _ h))
  clear hT hK
  have HM := Lib.hid (sides_fact a b)
  generalize subT a b = bs at HSu HM
  generalize easeT a b = be at HEa HM
  generalize sideV a b = s at HSd HRs HM
  generalize vagueV a = qa at HVa HM
  generalize vagueV b = qb at HVb HM
  obtain ⟨an, cn, aa, ca, rfl, rfl⟩ := ha.shape
  obtain ⟨bn, dn, bb, db, rfl, rfl⟩ := hb.shape
  obtain ⟨hh0, hh1, hbw, hsz⟩ := box2w w [.int .i64 a.kind, .slice an a.names.length cn, .slice aa a.args.length ca] [.int .i64 b.kind, .slice bn b.names.length dn, .slice bb b.args.length db] 25 _ rfl
  have HAf : Hid (∀ W, Below (w.heap.size + 1 + 1) ((w.alloc (.cells #[.int .i64 a.kind, .slice an a.names.length cn, .slice aa a.args.length ca] 25)).alloc (.cells #[.int .i64 b.kind, .slice bn b.names.length dn, .slice bb b.args.length db] 25)) W → (W.cell? ⟨w.heap.size, 0, none⟩ = some (.int .i64 a.kind) ∧ W.cell? ⟨w.heap.size, 1, none⟩ = some (.slice an a.names.length cn) ∧ W.cell? ⟨w.heap.size, 2, none⟩ = some (.slice aa a.args.length ca) ∧ W.cell? ⟨w.heap.size + 1, 0, none⟩ = some (.int .i64 b.kind) ∧ W.cell? ⟨w.heap.size + 1, 1, none⟩ = some (.slice bn b.names.length dn) ∧ W.cell? ⟨w.heap.size + 1, 2, none⟩ = some (.slice bb b.args.length db) ∧ w.heap.size < W.heap.size ∧ w.heap.size + 1 < W.heap.size) ∧ Below w.heap.size w W) := Lib.hid (fun W h => by
    have g0 := hh0.below h (by omega)
    have g1 := hh1.below h (by omega)
    exact ⟨⟨g0.cell 0, g0.cell 1, g0.cell 2, g1.cell 0, g1.cell 1, g1.cell 2, g0.lt, g1.lt⟩, hbw.trans (h.mono (by omega))⟩)
  have HB0 : Hid (Below (w.heap.size + 1 + 1) ((w.alloc (.cells #[.int .i64 a.kind, .slice an a.names.length cn, .slice aa a.args.length ca] 25)).alloc (.cells #[.int .i64 b.kind, .slice bn b.names.length dn, .slice bb b.args.length db] 25)) ((w.alloc (.cells #[.int .i64 a.kind, .slice an a.names.length cn, .slice aa a.args.length ca] 25)).alloc (.cells #[.int .i64 b.kind, .slice bn b.names.length dn, .slice bb b.args.length db] 25))) := Lib.hid (Below.refl _ _)
  have HW0 := Lib.hid (HAf.out _ HB0.out).2
  have HFx : Hid (∀ W W', Below (w.heap.size + 1 + 1) ((w.alloc (.cells #[.int .i64 a.kind, .slice an a.names.length cn, .slice aa a.args.length ca] 25)).alloc (.cells #[.int .i64 b.kind, .slice bn b.names.length dn, .slice bb b.args.length db] 25)) W → Below W.heap.size W W' → Below (w.heap.size + 1 + 1) ((w.alloc (.cells #[.int .i64 a.kind, .slice an a.names.length cn, .slice aa a.args.length ca] 25)).alloc (.cells #[.int .i64 b.kind, .slice bn b.names.length dn, .slice bb b.args.length db] 25)) W') := Lib.hid (fun W W' h1 h2 => h1.trans (h2.mono (by have := h1.size; rw [hsz] at this; exact this)))
  clear ha hb hbw hsz hh0 hh1
  obtain ⟨fw, hfw⟩ : ∃ fw, [a, b].all fewV = fw := ⟨_, rfl⟩
  cases fw
  · clear HM
    go_enter Tryd.func7, Tryd.ntmps7
    go_wp2_with fail
    refine (HAw.out _ HW0.out).mono ?_
    rintro e w1 ⟨rfl, hb⟩
    have HB1 := Lib.hid (HFx.out _ _ HB0.out hb)
    obtain ⟨⟨x0, x1, x2, y0, y1, y2, lX, lY⟩, hw⟩ := HAf.out _ HB1.out
    have HW1 := Lib.hid hw
    clear hb hw
    have hba : Below w1.heap.size w1 (w1.alloc (.cells #[.int .i64 a.kind, .slice an a.names.length cn, .slice aa a.args.length ca, .int .i64 b.kind, .slice bn b.names.length dn, .slice bb b.args.length db] 25)) := (Below.refl _ _).alloc (Nat.le_refl _) _
    have HBa := Lib.hid (HFx.out _ _ HB1.out hba)
    have HWa := Lib.hid (HAf.out _ HBa.out).2
    have HFe := Lib.hid (fews_any [a, b] _ _ (row2_at (Has.new w1 25 [.int .i64 a.kind, .slice an a.names.length cn, .slice aa a.args.length ca, .int .i64 b.kind, .slice bn b.names.length dn, .slice bb b.args.length db]) (HTa.out _ HWa.out) (HTb.out _ HWa.out)) (by simp; exact ⟨oka, okb⟩) (by simp))
    clear hba
    rw [hfw] at HFe
    go_wp2_with fail
    refine (HFe.out).mono ?_
    rintro e w2 ⟨rfl, hb⟩
    have HB2 := Lib.hid (HFx.out _ _ HBa.out hb)
    clear x0 x1 x2 y0 y1 y2 lX lY
    obtain ⟨⟨x0, x1, x2, y0, y1, y2, lX, lY⟩, hw⟩ := HAf.out _ HB2.out
    have HW2 := Lib.hid hw
    clear hb hw
    go_wp2
    go_ret
    exact ⟨rfl, HW2.out⟩
  · have hss : (s != s) = false := by simp
    cases bs
    · cases be
      · clear HM
        go_enter Tryd.func7, Tryd.ntmps7
        go_wp2_with fail
        refine (HAw.out _ HW0.out).mono ?_
        rintro e w1 ⟨rfl, hb⟩
        have HB1 := Lib.hid (HFx.out _ _ HB0.out hb)
        obtain ⟨⟨x0, x1, x2, y0, y1, y2, lX, lY⟩, hw⟩ := HAf.out _ HB1.out
        have HW1 := Lib.hid hw
        clear hb hw
        have hba : Below w1.heap.size w1 (w1.alloc (.cells #[.int .i64 a.kind, .slice an a.names.length cn, .slice aa a.args.length ca, .int .i64 b.kind, .slice bn b.names.length dn, .slice bb b.args.length db] 25)) := (Below.refl _ _).alloc (Nat.le_refl _) _
        have HBa := Lib.hid (HFx.out _ _ HB1.out hba)
        have HWa := Lib.hid (HAf.out _ HBa.out).2
        have HFe := Lib.hid (fews_any [a, b] _ _ (row2_at (Has.new w1 25 [.int .i64 a.kind, .slice an a.names.length cn, .slice aa a.args.length ca, .int .i64 b.kind, .slice bn b.names.length dn, .slice bb b.args.length db]) (HTa.out _ HWa.out) (HTb.out _ HWa.out)) (by simp; exact ⟨oka, okb⟩) (by simp))
        clear hba
        rw [hfw] at HFe
        go_wp2_with fail
        refine (HFe.out).mono ?_
        rintro e w2 ⟨rfl, hb⟩
        have HB2 := Lib.hid (HFx.out _ _ HBa.out hb)
        clear x0 x1 x2 y0 y1 y2 lX lY
        obtain ⟨⟨x0, x1, x2, y0, y1, y2, lX, lY⟩, hw⟩ := HAf.out _ HB2.out
        have HW2 := Lib.hid hw
        clear hb hw
        go_wp2_with fail
        refine (HSd.out _ HW2.out).mono ?_
        rintro e w3 ⟨rfl, hb⟩
        have HB3 := Lib.hid (HFx.out _ _ HB2.out hb)
        clear x0 x1 x2 y0 y1 y2 lX lY
        obtain ⟨⟨x0, x1, x2, y0, y1, y2, lX, lY⟩, hw⟩ := HAf.out _ HB3.out
        have HW3 := Lib.hid hw
        clear hb hw
        go_wp2_with fail
        refine (HRs.out _ HW3.out).mono ?_
        rintro e w4 ⟨rfl, hb⟩
        have HB4 := Lib.hid (HFx.out _ _ HB3.out hb)
        clear x0 x1 x2 y0 y1 y2 lX lY
        obtain ⟨⟨x0, x1, x2, y0, y1, y2, lX, lY⟩, hw⟩ := HAf.out _ HB4.out
        have HW4 := Lib.hid hw
        clear hb hw
        go_wp2_with fail
        refine (HSu.out _ HW4.out).mono ?_
        rintro e w5 ⟨rfl, hb⟩
        have HB5 := Lib.hid (HFx.out _ _ HB4.out hb)
        clear x0 x1 x2 y0 y1 y2 lX lY
        obtain ⟨⟨x0, x1, x2, y0, y1, y2, lX, lY⟩, hw⟩ := HAf.out _ HB5.out
        have HW5 := Lib.hid hw
        clear hb hw
        go_wp2_with fail
        refine (HEa.out _ HW5.out).mono ?_
        rintro e w6 ⟨rfl, hb⟩
        have HB6 := Lib.hid (HFx.out _ _ HB5.out hb)
        clear x0 x1 x2 y0 y1 y2 lX lY
        obtain ⟨⟨x0, x1, x2, y0, y1, y2, lX, lY⟩, hw⟩ := HAf.out _ HB6.out
        have HW6 := Lib.hid hw
        clear hb hw
        go_wp2
        go_ret
        exact ⟨rfl, HW6.out⟩
      · rcases HM.out.2 rfl rfl with ⟨rfl, rfl⟩ | ⟨rfl, rfl⟩
        · clear HM
          go_enter Tryd.func7, Tryd.ntmps7
          go_wp2_with fail
          refine (HAw.out _ HW0.out).mono ?_
          rintro e w1 ⟨rfl, hb⟩
          have HB1 := Lib.hid (HFx.out _ _ HB0.out hb)
          obtain ⟨⟨x0, x1, x2, y0, y1, y2, lX, lY⟩, hw⟩ := HAf.out _ HB1.out
          have HW1 := Lib.hid hw
          clear hb hw
          have hba : Below w1.heap.size w1 (w1.alloc (.cells #[.int .i64 a.kind, .slice an a.names.length cn, .slice aa a.args.length ca, .int .i64 b.kind, .slice bn b.names.length dn, .slice bb b.args.length db] 25)) := (Below.refl _ _).alloc (Nat.le_refl _) _
          have HBa := Lib.hid (HFx.out _ _ HB1.out hba)
          have HWa := Lib.hid (HAf.out _ HBa.out).2
          have HFe := Lib.hid (fews_any [a, b] _ _ (row2_at (Has.new w1 25 [.int .i64 a.kind, .slice an a.names.length cn, .slice aa a.args.length ca, .int .i64 b.kind, .slice bn b.names.length dn, .slice bb b.args.length db]) (HTa.out _ HWa.out) (HTb.out _ HWa.out)) (by simp; exact ⟨oka, okb⟩) (by simp))
          clear hba
          rw [hfw] at HFe
          go_wp2_with fail
          refine (HFe.out).mono ?_
          rintro e w2 ⟨rfl, hb⟩
          have HB2 := Lib.hid (HFx.out _ _ HBa.out hb)
          clear x0 x1 x2 y0 y1 y2 lX lY
          obtain ⟨⟨x0, x1, x2, y0, y1, y2, lX, lY⟩, hw⟩ := HAf.out _ HB2.out
          have HW2 := Lib.hid hw
          clear hb hw
          go_wp2_with fail
          refine (HSd.out _ HW2.out).mono ?_
          rintro e w3 ⟨rfl, hb⟩
          have HB3 := Lib.hid (HFx.out _ _ HB2.out hb)
          clear x0 x1 x2 y0 y1 y2 lX lY
          obtain ⟨⟨x0, x1, x2, y0, y1, y2, lX, lY⟩, hw⟩ := HAf.out _ HB3.out
          have HW3 := Lib.hid hw
          clear hb hw
          go_wp2_with fail
          refine (HRs.out _ HW3.out).mono ?_
          rintro e w4 ⟨rfl, hb⟩
          have HB4 := Lib.hid (HFx.out _ _ HB3.out hb)
          clear x0 x1 x2 y0 y1 y2 lX lY
          obtain ⟨⟨x0, x1, x2, y0, y1, y2, lX, lY⟩, hw⟩ := HAf.out _ HB4.out
          have HW4 := Lib.hid hw
          clear hb hw
          go_wp2_with fail
          refine (HSu.out _ HW4.out).mono ?_
          rintro e w5 ⟨rfl, hb⟩
          have HB5 := Lib.hid (HFx.out _ _ HB4.out hb)
          clear x0 x1 x2 y0 y1 y2 lX lY
          obtain ⟨⟨x0, x1, x2, y0, y1, y2, lX, lY⟩, hw⟩ := HAf.out _ HB5.out
          have HW5 := Lib.hid hw
          clear hb hw
          go_wp2_with fail
          refine (HEa.out _ HW5.out).mono ?_
          rintro e w6 ⟨rfl, hb⟩
          have HB6 := Lib.hid (HFx.out _ _ HB5.out hb)
          clear x0 x1 x2 y0 y1 y2 lX lY
          obtain ⟨⟨x0, x1, x2, y0, y1, y2, lX, lY⟩, hw⟩ := HAf.out _ HB6.out
          have HW6 := Lib.hid hw
          clear hb hw
          go_wp2_with fail
          refine (HSu.out _ HW6.out).mono ?_
          rintro e w7 ⟨rfl, hb⟩
          have HB7 := Lib.hid (HFx.out _ _ HB6.out hb)
          clear x0 x1 x2 y0 y1 y2 lX lY
          obtain ⟨⟨x0, x1, x2, y0, y1, y2, lX, lY⟩, hw⟩ := HAf.out _ HB7.out
          have HW7 := Lib.hid hw
          clear hb hw
          go_wp2_with fail
          refine (HVa.out _ HW7.out).mono ?_
          rintro e w8 ⟨rfl, hb⟩
          have HB8 := Lib.hid (HFx.out _ _ HB7.out hb)
          clear x0 x1 x2 y0 y1 y2 lX lY
          obtain ⟨⟨x0, x1, x2, y0, y1, y2, lX, lY⟩, hw⟩ := HAf.out _ HB8.out
          have HW8 := Lib.hid hw
          clear hb hw
          go_wp2
          go_ret
          exact ⟨rfl, HW8.out⟩
        · clear HM
          go_enter Tryd.func7, Tryd.ntmps7
          go_wp2_with fail
          refine (HAw.out _ HW0.out).mono ?_
          rintro e w1 ⟨rfl, hb⟩
          have HB1 := Lib.hid (HFx.out _ _ HB0.out hb)
          obtain ⟨⟨x0, x1, x2, y0, y1, y2, lX, lY⟩, hw⟩ := HAf.out _ HB1.out
          have HW1 := Lib.hid hw
          clear hb hw
          have hba : Below w1.heap.size w1 (w1.alloc (.cells #[.int .i64 a.kind, .slice an a.names.length cn, .slice aa a.args.length ca, .int .i64 b.kind, .slice bn b.names.length dn, .slice bb b.args.length db] 25)) := (Below.refl _ _).alloc (Nat.le_refl _) _
          have HBa := Lib.hid (HFx.out _ _ HB1.out hba)
          have HWa := Lib.hid (HAf.out _ HBa.out).2
          have HFe := Lib.hid (fews_any [a, b] _ _ (row2_at (Has.new w1 25 [.int .i64 a.kind, .slice an a.names.length cn, .slice aa a.args.length ca, .int .i64 b.kind, .slice bn b.names.length dn, .slice bb b.args.length db]) (HTa.out _ HWa.out) (HTb.out _ HWa.out)) (by simp; exact ⟨oka, okb⟩) (by simp))
          clear hba
          rw [hfw] at HFe
          go_wp2_with fail
          refine (HFe.out).mono ?_
          rintro e w2 ⟨rfl, hb⟩
          have HB2 := Lib.hid (HFx.out _ _ HBa.out hb)
          clear x0 x1 x2 y0 y1 y2 lX lY
          obtain ⟨⟨x0, x1, x2, y0, y1, y2, lX, lY⟩, hw⟩ := HAf.out _ HB2.out
          have HW2 := Lib.hid hw
          clear hb hw
          go_wp2_with fail
          refine (HSd.out _ HW2.out).mono ?_
          rintro e w3 ⟨rfl, hb⟩
          have HB3 := Lib.hid (HFx.out _ _ HB2.out hb)
          clear x0 x1 x2 y0 y1 y2 lX lY
          obtain ⟨⟨x0, x1, x2, y0, y1, y2, lX, lY⟩, hw⟩ := HAf.out _ HB3.out
          have HW3 := Lib.hid hw
          clear hb hw
          go_wp2_with fail
          refine (HRs.out _ HW3.out).mono ?_
          rintro e w4 ⟨rfl, hb⟩
          have HB4 := Lib.hid (HFx.out _ _ HB3.out hb)
          clear x0 x1 x2 y0 y1 y2 lX lY
          obtain ⟨⟨x0, x1, x2, y0, y1, y2, lX, lY⟩, hw⟩ := HAf.out _ HB4.out
          have HW4 := Lib.hid hw
          clear hb hw
          go_wp2_with fail
          refine (HSu.out _ HW4.out).mono ?_
          rintro e w5 ⟨rfl, hb⟩
          have HB5 := Lib.hid (HFx.out _ _ HB4.out hb)
          clear x0 x1 x2 y0 y1 y2 lX lY
          obtain ⟨⟨x0, x1, x2, y0, y1, y2, lX, lY⟩, hw⟩ := HAf.out _ HB5.out
          have HW5 := Lib.hid hw
          clear hb hw
          go_wp2_with fail
          refine (HEa.out _ HW5.out).mono ?_
          rintro e w6 ⟨rfl, hb⟩
          have HB6 := Lib.hid (HFx.out _ _ HB5.out hb)
          clear x0 x1 x2 y0 y1 y2 lX lY
          obtain ⟨⟨x0, x1, x2, y0, y1, y2, lX, lY⟩, hw⟩ := HAf.out _ HB6.out
          have HW6 := Lib.hid hw
          clear hb hw
          go_wp2_with fail
          refine (HSu.out _ HW6.out).mono ?_
          rintro e w7 ⟨rfl, hb⟩
          have HB7 := Lib.hid (HFx.out _ _ HB6.out hb)
          clear x0 x1 x2 y0 y1 y2 lX lY
          obtain ⟨⟨x0, x1, x2, y0, y1, y2, lX, lY⟩, hw⟩ := HAf.out _ HB7.out
          have HW7 := Lib.hid hw
          clear hb hw
          go_wp2_with fail
          refine (HVb.out _ HW7.out).mono ?_
          rintro e w8 ⟨rfl, hb⟩
          have HB8 := Lib.hid (HFx.out _ _ HB7.out hb)
          clear x0 x1 x2 y0 y1 y2 lX lY
          obtain ⟨⟨x0, x1, x2, y0, y1, y2, lX, lY⟩, hw⟩ := HAf.out _ HB8.out
          have HW8 := Lib.hid hw
          clear hb hw
          go_wp2
          go_ret
          exact ⟨rfl, HW8.out⟩
    · obtain rfl := HM.out.1 rfl
      clear HM
      go_enter Tryd.func7, Tryd.ntmps7
      go_wp2_with fail
      refine (HAw.out _ HW0.out).mono ?_
      rintro e w1 ⟨rfl, hb⟩
      have HB1 := Lib.hid (HFx.out _ _ HB0.out hb)
      obtain ⟨⟨x0, x1, x2, y0, y1, y2, lX, lY⟩, hw⟩ := HAf.out _ HB1.out
      have HW1 := Lib.hid hw
      clear hb hw
      have hba : Below w1.heap.size w1 (w1.alloc (.cells #[.int .i64 a.kind, .slice an a.names.length cn, .slice aa a.args.length ca, .int .i64 b.kind, .slice bn b.names.length dn, .slice bb b.args.length db] 25)) := (Below.refl _ _).alloc (Nat.le_refl _) _
      have HBa := Lib.hid (HFx.out _ _ HB1.out hba)
      have HWa := Lib.hid (HAf.out _ HBa.out).2
      have HFe := Lib.hid (fews_any [a, b] _ _ (row2_at (Has.new w1 25 [.int .i64 a.kind, .slice an a.names.length cn, .slice aa a.args.length ca, .int .i64 b.kind, .slice bn b.names.length dn, .slice bb b.args.length db]) (HTa.out _ HWa.out) (HTb.out _ HWa.out)) (by simp; exact ⟨oka, okb⟩) (by simp))
      clear hba
      rw [hfw] at HFe
      go_wp2_with fail
      refine (HFe.out).mono ?_
      rintro e w2 ⟨rfl, hb⟩
      have HB2 := Lib.hid (HFx.out _ _ HBa.out hb)
      clear x0 x1 x2 y0 y1 y2 lX lY
      obtain ⟨⟨x0, x1, x2, y0, y1, y2, lX, lY⟩, hw⟩ := HAf.out _ HB2.out
      have HW2 := Lib.hid hw
      clear hb hw
      go_wp2_with fail
      refine (HSd.out _ HW2.out).mono ?_
      rintro e w3 ⟨rfl, hb⟩
      have HB3 := Lib.hid (HFx.out _ _ HB2.out hb)
      clear x0 x1 x2 y0 y1 y2 lX lY
      obtain ⟨⟨x0, x1, x2, y0, y1, y2, lX, lY⟩, hw⟩ := HAf.out _ HB3.out
      have HW3 := Lib.hid hw
      clear hb hw
      go_wp2_with fail
      refine (HRs.out _ HW3.out).mono ?_
      rintro e w4 ⟨rfl, hb⟩
      have HB4 := Lib.hid (HFx.out _ _ HB3.out hb)
      clear x0 x1 x2 y0 y1 y2 lX lY
      obtain ⟨⟨x0, x1, x2, y0, y1, y2, lX, lY⟩, hw⟩ := HAf.out _ HB4.out
      have HW4 := Lib.hid hw
      clear hb hw
      go_wp2_with fail
      refine (HSu.out _ HW4.out).mono ?_
      rintro e w5 ⟨rfl, hb⟩
      have HB5 := Lib.hid (HFx.out _ _ HB4.out hb)
      clear x0 x1 x2 y0 y1 y2 lX lY
      obtain ⟨⟨x0, x1, x2, y0, y1, y2, lX, lY⟩, hw⟩ := HAf.out _ HB5.out
      have HW5 := Lib.hid hw
      clear hb hw
      go_wp2_with fail
      refine (HEa.out _ HW5.out).mono ?_
      rintro e w6 ⟨rfl, hb⟩
      have HB6 := Lib.hid (HFx.out _ _ HB5.out hb)
      clear x0 x1 x2 y0 y1 y2 lX lY
      obtain ⟨⟨x0, x1, x2, y0, y1, y2, lX, lY⟩, hw⟩ := HAf.out _ HB6.out
      have HW6 := Lib.hid hw
      clear hb hw
      go_wp2_with fail
      refine (HEa.out _ HW6.out).mono ?_
      rintro e w7 ⟨rfl, hb⟩
      have HB7 := Lib.hid (HFx.out _ _ HB6.out hb)
      clear x0 x1 x2 y0 y1 y2 lX lY
      obtain ⟨⟨x0, x1, x2, y0, y1, y2, lX, lY⟩, hw⟩ := HAf.out _ HB7.out
      have HW7 := Lib.hid hw
      clear hb hw
      go_wp2_with fail
      refine (HSu.out _ HW7.out).mono ?_
      rintro e w8 ⟨rfl, hb⟩
      have HB8 := Lib.hid (HFx.out _ _ HB7.out hb)
      clear x0 x1 x2 y0 y1 y2 lX lY
      obtain ⟨⟨x0, x1, x2, y0, y1, y2, lX, lY⟩, hw⟩ := HAf.out _ HB8.out
      have HW8 := Lib.hid hw
      clear hb hw
      go_wp2
      go_ret
      exact ⟨rfl, HW8.out⟩
set_option maxRecDepth 100000 in
set_option maxHeartbeats 16000000 in
theorem chains_u (a : Ty) (vn va : Value) (b : Ty) (un ua : Value) (c : Ty) (tn ta : Value) (w : World) (oka : TyOk a) (ha : TyAt w vn va a) (okb : TyOk b) (hb : TyAt w un ua b) (okc : TyOk c) (hc : TyAt w tn ta c) (hT : WTab w) (hK : KTab w) :
    Calls Tryd.prog 8 #[.agg #[.int .i64 a.kind, vn, va], .agg #[.int .i64 b.kind, un, ua], .agg #[.int .i64 c.kind, tn, ta]] w (BoolB w true) := by
  have HTa := Lib.hid (fun (W : World) (h : Below w.heap.size w W) => ha.frame (Nat.le_refl _) h)
  have HTb := Lib.hid (fun (W : World) (h : Below w.heap.size w W) => hb.frame (Nat.le_refl _) h)
  have HTc := Lib.hid (fun (W : World) (h : Below w.heap.size w W) => hc.frame (Nat.le_refl _) h)
  have HAw := Lib.hid (fun (W : World) (h : Below w.heap.size w W) => awake_any W (hT.below h) (hK.below h))
  have HS1 := Lib.hid (fun (W : World) (h : Below w.heap.size w W) => subT_any a b _ _ _ _ W oka okb (HTa.out _ h) (HTb.out _ h) (hT.below h) (hK.below h))
  have HS2 := Lib.hid (fun (W : World) (h : Below w.heap.size w W) => subT_any b c _ _ _ _ W okb okc (HTb.out _ h) (HTc.out _ h) (hT.below h) (hK.below h))
  have HS3 := Lib.hid (fun (W : World) (h : Below w.heap.size w W) => subT_any a c _ _ _ _ W oka okc (HTa.out _ h) (HTc.out _ h) (hT.below h) (hK.below h))
  have HP1 := Lib.hid (fun (W : World) (h : Below w.heap.size w W) => precT_any a b _ _ _ _ W oka okb (HTa.out _ h) (HTb.out _ h) (hT.below h))
  have HP2 := Lib.hid (fun (W : World) (h : Below w.heap.size w W) => precT_any b c _ _ _ _ W okb okc (HTb.out _ h) (HTc.out _ h) (hT.below h))
  have HP3 := Lib.hid (fun (W : World) (h : Below w.heap.size w W) => precT_any a c _ _ _ _ W oka okc (HTa.out _ h) (HTc.out _ h) (hT.below h))
  clear hT hK
  have HM := Lib.hid (chain_fact a b c)
  generalize subT a b = s1 at HS1 HM
  generalize subT b c = s2 at HS2 HM
  generalize subT a c = s3 at HS3 HM
  generalize precT a b = p1 at HP1 HM
  generalize precT b c = p2 at HP2 HM
  generalize precT a c = p3 at HP3 HM
  obtain ⟨an, cn, aa, ca, rfl, rfl⟩ := ha.shape
  obtain ⟨bn, dn, bb, db, rfl, rfl⟩ := hb.shape
  obtain ⟨en, fn, cc, cd, rfl, rfl⟩ := hc.shape
  obtain ⟨hh0, hh1, hh2, hbw, hsz⟩ := box3w w [.int .i64 a.kind, .slice an a.names.length cn, .slice aa a.args.length ca] [.int .i64 b.kind, .slice bn b.names.length dn, .slice bb b.args.length db] [.int .i64 c.kind, .slice en c.names.length fn, .slice cc c.args.length cd] 25 _ rfl
  have HAf : Hid (∀ W, Below (w.heap.size + 1 + 1 + 1) (((w.alloc (.cells #[.int .i64 a.kind, .slice an a.names.length cn, .slice aa a.args.length ca] 25)).alloc (.cells #[.int .i64 b.kind, .slice bn b.names.length dn, .slice bb b.args.length db] 25)).alloc (.cells #[.int .i64 c.kind, .slice en c.names.length fn, .slice cc c.args.length cd] 25)) W → (W.cell? ⟨w.heap.size, 0, none⟩ = some (.int .i64 a.kind) ∧ W.cell? ⟨w.heap.size, 1, none⟩ = some (.slice an a.names.length cn) ∧ W.cell? ⟨w.heap.size, 2, none⟩ = some (.slice aa a.args.length ca) ∧ W.cell? ⟨w.heap.size + 1, 0, none⟩ = some (.int .i64 b.kind) ∧ W.cell? ⟨w.heap.size + 1, 1, none⟩ = some (.slice bn b.names.length dn) ∧ W.cell? ⟨w.heap.size + 1, 2, none⟩ = some (.slice bb b.args.length db) ∧ W.cell? ⟨w.heap.size + 1 + 1, 0, none⟩ = some (.int .i64 c.kind) ∧ W.cell? ⟨w.heap.size + 1 + 1, 1, none⟩ = some (.slice en c.names.length fn) ∧ W.cell? ⟨w.heap.size + 1 + 1, 2, none⟩ = some (.slice cc c.args.length cd) ∧ w.heap.size < W.heap.size ∧ w.heap.size + 1 < W.heap.size ∧ w.heap.size + 1 + 1 < W.heap.size) ∧ Below w.heap.size w W) := Lib.hid (fun W h => by
    have g0 := hh0.below h (by omega)
    have g1 := hh1.below h (by omega)
    have g2 := hh2.below h (by omega)
    exact ⟨⟨g0.cell 0, g0.cell 1, g0.cell 2, g1.cell 0, g1.cell 1, g1.cell 2, g2.cell 0, g2.cell 1, g2.cell 2, g0.lt, g1.lt, g2.lt⟩, hbw.trans (h.mono (by omega))⟩)
  have HB0 : Hid (Below (w.heap.size + 1 + 1 + 1) (((w.alloc (.cells #[.int .i64 a.kind, .slice an a.names.length cn, .slice aa a.args.length ca] 25)).alloc (.cells #[.int .i64 b.kind, .slice bn b.names.length dn, .slice bb b.args.length db] 25)).alloc (.cells #[.int .i64 c.kind, .slice en c.names.length fn, .slice cc c.args.length cd] 25)) (((w.alloc (.cells #[.int .i64 a.kind, .slice an a.names.length cn, .slice aa a.args.length ca] 25)).alloc (.cells #[.int .i64 b.kind, .slice bn b.names.length dn, .slice bb b.args.length db] 25)).alloc (.cells #[.int .i64 c.kind, .slice en c.names.length fn, .slice cc c.args.length cd] 25))) := Lib.hid (Below.refl _ _)
  have HW0 := Lib.hid (HAf.out _ HB0.out).2
  have HFx : Hid (∀ W W', Below (w.heap.size + 1 + 1 + 1) (((w.alloc (.cells #[.int .i64 a.kind, .slice an a.names.length cn, .slice aa a.args.length ca] 25)).alloc (.cells #[.int .i64 b.kind, .slice bn b.names.length dn, .slice bb b.args.length db] 25)).alloc (.cells #[.int .i64 c.kind, .slice en c.names.length fn, .slice cc c.args.length cd] 25)) W → Below W.heap.size W W' → Below (w.heap.size + 1 + 1 + 1) (((w.alloc (.cells #[.int .i64 a.kind, .slice an a.names.length cn, .slice aa a.args.length ca] 25)).alloc (.cells #[.int .i64 b.kind, .slice bn b.names.length dn, .slice bb b.args.length db] 25)).alloc (.cells #[.int .i64 c.kind, .slice en c.names.length fn, .slice cc c.args.length cd] 25)) W') := Lib.hid (fun W W' h1 h2 => h1.trans (h2.mono (by have := h1.size; rw [hsz] at this; exact this)))
  clear ha hb hc hbw hsz hh0 hh1 hh2
  obtain ⟨fw, hfw⟩ : ∃ fw, [a, b, c].all fewV = fw := ⟨_, rfl⟩
  cases fw
  · clear HM
    go_enter Tryd.func8, Tryd.ntmps8
    go_wp2_with fail
    refine (HAw.out _ HW0.out).mono ?_
    rintro e w1 ⟨rfl, hb⟩
    have HB1 := Lib.hid (HFx.out _ _ HB0.out hb)
    obtain ⟨⟨x0, x1, x2, y0, y1, y2, z0, z1, z2, lX, lY, lZ⟩, hw⟩ := HAf.out _ HB1.out
    have HW1 := Lib.hid hw
    clear hb hw
    have hba : Below w1.heap.size w1 (w1.alloc (.cells #[.int .i64 a.kind, .slice an a.names.length cn, .slice aa a.args.length ca, .int .i64 b.kind, .slice bn b.names.length dn, .slice bb b.args.length db, .int .i64 c.kind, .slice en c.names.length fn, .slice cc c.args.length cd] 25)) := (Below.refl _ _).alloc (Nat.le_refl _) _
    have HBa := Lib.hid (HFx.out _ _ HB1.out hba)
    have HWa := Lib.hid (HAf.out _ HBa.out).2
    have HFe := Lib.hid (fews_any [a, b, c] _ _ (row3_at (Has.new w1 25 [.int .i64 a.kind, .slice an a.names.length cn, .slice aa a.args.length ca, .int .i64 b.kind, .slice bn b.names.length dn, .slice bb b.args.length db, .int .i64 c.kind, .slice en c.names.length fn, .slice cc c.args.length cd]) (HTa.out _ HWa.out) (HTb.out _ HWa.out) (HTc.out _ HWa.out)) (by simp; exact ⟨oka, okb, okc⟩) (by simp))
    clear hba
    rw [hfw] at HFe
    go_wp2_with fail
    refine (HFe.out).mono ?_
    rintro e w2 ⟨rfl, hb⟩
    have HB2 := Lib.hid (HFx.out _ _ HBa.out hb)
    clear x0 x1 x2 y0 y1 y2 z0 z1 z2 lX lY lZ
    obtain ⟨⟨x0, x1, x2, y0, y1, y2, z0, z1, z2, lX, lY, lZ⟩, hw⟩ := HAf.out _ HB2.out
    have HW2 := Lib.hid hw
    clear hb hw
    go_wp2
    go_ret
    exact ⟨rfl, HW2.out⟩
  · obtain ⟨hm1, hm2⟩ := HM.out
    clear HM
    cases s1
    · clear hm1
      go_enter Tryd.func8, Tryd.ntmps8
      go_wp2_with fail
      refine (HAw.out _ HW0.out).mono ?_
      rintro e w1 ⟨rfl, hb⟩
      have HB1 := Lib.hid (HFx.out _ _ HB0.out hb)
      obtain ⟨⟨x0, x1, x2, y0, y1, y2, z0, z1, z2, lX, lY, lZ⟩, hw⟩ := HAf.out _ HB1.out
      have HW1 := Lib.hid hw
      clear hb hw
      have hba : Below w1.heap.size w1 (w1.alloc (.cells #[.int .i64 a.kind, .slice an a.names.length cn, .slice aa a.args.length ca, .int .i64 b.kind, .slice bn b.names.length dn, .slice bb b.args.length db, .int .i64 c.kind, .slice en c.names.length fn, .slice cc c.args.length cd] 25)) := (Below.refl _ _).alloc (Nat.le_refl _) _
      have HBa := Lib.hid (HFx.out _ _ HB1.out hba)
      have HWa := Lib.hid (HAf.out _ HBa.out).2
      have HFe := Lib.hid (fews_any [a, b, c] _ _ (row3_at (Has.new w1 25 [.int .i64 a.kind, .slice an a.names.length cn, .slice aa a.args.length ca, .int .i64 b.kind, .slice bn b.names.length dn, .slice bb b.args.length db, .int .i64 c.kind, .slice en c.names.length fn, .slice cc c.args.length cd]) (HTa.out _ HWa.out) (HTb.out _ HWa.out) (HTc.out _ HWa.out)) (by simp; exact ⟨oka, okb, okc⟩) (by simp))
      clear hba
      rw [hfw] at HFe
      go_wp2_with fail
      refine (HFe.out).mono ?_
      rintro e w2 ⟨rfl, hb⟩
      have HB2 := Lib.hid (HFx.out _ _ HBa.out hb)
      clear x0 x1 x2 y0 y1 y2 z0 z1 z2 lX lY lZ
      obtain ⟨⟨x0, x1, x2, y0, y1, y2, z0, z1, z2, lX, lY, lZ⟩, hw⟩ := HAf.out _ HB2.out
      have HW2 := Lib.hid hw
      clear hb hw
      go_wp2_with fail
      refine (HS1.out _ HW2.out).mono ?_
      rintro e w3 ⟨rfl, hb⟩
      have HB3 := Lib.hid (HFx.out _ _ HB2.out hb)
      clear x0 x1 x2 y0 y1 y2 z0 z1 z2 lX lY lZ
      obtain ⟨⟨x0, x1, x2, y0, y1, y2, z0, z1, z2, lX, lY, lZ⟩, hw⟩ := HAf.out _ HB3.out
      have HW3 := Lib.hid hw
      clear hb hw
      cases p1
      · clear hm2
        go_wp2_with fail
        refine (HP1.out _ HW3.out).mono ?_
        rintro e w4 ⟨rfl, hb⟩
        have HB4 := Lib.hid (HFx.out _ _ HB3.out hb)
        clear x0 x1 x2 y0 y1 y2 z0 z1 z2 lX lY lZ
        obtain ⟨⟨x0, x1, x2, y0, y1, y2, z0, z1, z2, lX, lY, lZ⟩, hw⟩ := HAf.out _ HB4.out
        have HW4 := Lib.hid hw
        clear hb hw
        go_wp2
        go_ret
        exact ⟨rfl, HW4.out⟩
      · cases p2
        · clear hm2
          go_wp2_with fail
          refine (HP1.out _ HW3.out).mono ?_
          rintro e w4 ⟨rfl, hb⟩
          have HB4 := Lib.hid (HFx.out _ _ HB3.out hb)
          clear x0 x1 x2 y0 y1 y2 z0 z1 z2 lX lY lZ
          obtain ⟨⟨x0, x1, x2, y0, y1, y2, z0, z1, z2, lX, lY, lZ⟩, hw⟩ := HAf.out _ HB4.out
          have HW4 := Lib.hid hw
          clear hb hw
          go_wp2_with fail
          refine (HP2.out _ HW4.out).mono ?_
          rintro e w5 ⟨rfl, hb⟩
          have HB5 := Lib.hid (HFx.out _ _ HB4.out hb)
          clear x0 x1 x2 y0 y1 y2 z0 z1 z2 lX lY lZ
          obtain ⟨⟨x0, x1, x2, y0, y1, y2, z0, z1, z2, lX, lY, lZ⟩, hw⟩ := HAf.out _ HB5.out
          have HW5 := Lib.hid hw
          clear hb hw
          go_wp2
          go_ret
          exact ⟨rfl, HW5.out⟩
        · obtain rfl := hm2 rfl rfl
          clear hm2
          go_wp2_with fail
          refine (HP1.out _ HW3.out).mono ?_
          rintro e w4 ⟨rfl, hb⟩
          have HB4 := Lib.hid (HFx.out _ _ HB3.out hb)
          clear x0 x1 x2 y0 y1 y2 z0 z1 z2 lX lY lZ
          obtain ⟨⟨x0, x1, x2, y0, y1, y2, z0, z1, z2, lX, lY, lZ⟩, hw⟩ := HAf.out _ HB4.out
          have HW4 := Lib.hid hw
          clear hb hw
          go_wp2_with fail
          refine (HP2.out _ HW4.out).mono ?_
          rintro e w5 ⟨rfl, hb⟩
          have HB5 := Lib.hid (HFx.out _ _ HB4.out hb)
          clear x0 x1 x2 y0 y1 y2 z0 z1 z2 lX lY lZ
          obtain ⟨⟨x0, x1, x2, y0, y1, y2, z0, z1, z2, lX, lY, lZ⟩, hw⟩ := HAf.out _ HB5.out
          have HW5 := Lib.hid hw
          clear hb hw
          go_wp2_with fail
          refine (HP3.out _ HW5.out).mono ?_
          rintro e w6 ⟨rfl, hb⟩
          have HB6 := Lib.hid (HFx.out _ _ HB5.out hb)
          clear x0 x1 x2 y0 y1 y2 z0 z1 z2 lX lY lZ
          obtain ⟨⟨x0, x1, x2, y0, y1, y2, z0, z1, z2, lX, lY, lZ⟩, hw⟩ := HAf.out _ HB6.out
          have HW6 := Lib.hid hw
          clear hb hw
          go_wp2
          go_ret
          exact ⟨rfl, HW6.out⟩
    · cases s2
      · clear hm1
        go_enter Tryd.func8, Tryd.ntmps8
        go_wp2_with fail
        refine (HAw.out _ HW0.out).mono ?_
        rintro e w1 ⟨rfl, hb⟩
        have HB1 := Lib.hid (HFx.out _ _ HB0.out hb)
        obtain ⟨⟨x0, x1, x2, y0, y1, y2, z0, z1, z2, lX, lY, lZ⟩, hw⟩ := HAf.out _ HB1.out
        have HW1 := Lib.hid hw
        clear hb hw
        have hba : Below w1.heap.size w1 (w1.alloc (.cells #[.int .i64 a.kind, .slice an a.names.length cn, .slice aa a.args.length ca, .int .i64 b.kind, .slice bn b.names.length dn, .slice bb b.args.length db, .int .i64 c.kind, .slice en c.names.length fn, .slice cc c.args.length cd] 25)) := (Below.refl _ _).alloc (Nat.le_refl _) _
        have HBa := Lib.hid (HFx.out _ _ HB1.out hba)
        have HWa := Lib.hid (HAf.out _ HBa.out).2
        have HFe := Lib.hid (fews_any [a, b, c] _ _ (row3_at (Has.new w1 25 [.int .i64 a.kind, .slice an a.names.length cn, .slice aa a.args.length ca, .int .i64 b.kind, .slice bn b.names.length dn, .slice bb b.args.length db, .int .i64 c.kind, .slice en c.names.length fn, .slice cc c.args.length cd]) (HTa.out _ HWa.out) (HTb.out _ HWa.out) (HTc.out _ HWa.out)) (by simp; exact ⟨oka, okb, okc⟩) (by simp))
        clear hba
        rw [hfw] at HFe
        go_wp2_with fail
        refine (HFe.out).mono ?_
        rintro e w2 ⟨rfl, hb⟩
        have HB2 := Lib.hid (HFx.out _ _ HBa.out hb)
        clear x0 x1 x2 y0 y1 y2 z0 z1 z2 lX lY lZ
        obtain ⟨⟨x0, x1, x2, y0, y1, y2, z0, z1, z2, lX, lY, lZ⟩, hw⟩ := HAf.out _ HB2.out
        have HW2 := Lib.hid hw
        clear hb hw
        go_wp2_with fail
        refine (HS1.out _ HW2.out).mono ?_
        rintro e w3 ⟨rfl, hb⟩
        have HB3 := Lib.hid (HFx.out _ _ HB2.out hb)
        clear x0 x1 x2 y0 y1 y2 z0 z1 z2 lX lY lZ
        obtain ⟨⟨x0, x1, x2, y0, y1, y2, z0, z1, z2, lX, lY, lZ⟩, hw⟩ := HAf.out _ HB3.out
        have HW3 := Lib.hid hw
        clear hb hw
        go_wp2_with fail
        refine (HS2.out _ HW3.out).mono ?_
        rintro e w4 ⟨rfl, hb⟩
        have HB4 := Lib.hid (HFx.out _ _ HB3.out hb)
        clear x0 x1 x2 y0 y1 y2 z0 z1 z2 lX lY lZ
        obtain ⟨⟨x0, x1, x2, y0, y1, y2, z0, z1, z2, lX, lY, lZ⟩, hw⟩ := HAf.out _ HB4.out
        have HW4 := Lib.hid hw
        clear hb hw
        cases p1
        · clear hm2
          go_wp2_with fail
          refine (HP1.out _ HW4.out).mono ?_
          rintro e w5 ⟨rfl, hb⟩
          have HB5 := Lib.hid (HFx.out _ _ HB4.out hb)
          clear x0 x1 x2 y0 y1 y2 z0 z1 z2 lX lY lZ
          obtain ⟨⟨x0, x1, x2, y0, y1, y2, z0, z1, z2, lX, lY, lZ⟩, hw⟩ := HAf.out _ HB5.out
          have HW5 := Lib.hid hw
          clear hb hw
          go_wp2
          go_ret
          exact ⟨rfl, HW5.out⟩
        · cases p2
          · clear hm2
            go_wp2_with fail
            refine (HP1.out _ HW4.out).mono ?_
            rintro e w5 ⟨rfl, hb⟩
            have HB5 := Lib.hid (HFx.out _ _ HB4.out hb)
            clear x0 x1 x2 y0 y1 y2 z0 z1 z2 lX lY lZ
            obtain ⟨⟨x0, x1, x2, y0, y1, y2, z0, z1, z2, lX, lY, lZ⟩, hw⟩ := HAf.out _ HB5.out
            have HW5 := Lib.hid hw
            clear hb hw
            go_wp2_with fail
            refine (HP2.out _ HW5.out).mono ?_
            rintro e w6 ⟨rfl, hb⟩
            have HB6 := Lib.hid (HFx.out _ _ HB5.out hb)
            clear x0 x1 x2 y0 y1 y2 z0 z1 z2 lX lY lZ
            obtain ⟨⟨x0, x1, x2, y0, y1, y2, z0, z1, z2, lX, lY, lZ⟩, hw⟩ := HAf.out _ HB6.out
            have HW6 := Lib.hid hw
            clear hb hw
            go_wp2
            go_ret
            exact ⟨rfl, HW6.out⟩
          · obtain rfl := hm2 rfl rfl
            clear hm2
            go_wp2_with fail
            refine (HP1.out _ HW4.out).mono ?_
            rintro e w5 ⟨rfl, hb⟩
            have HB5 := Lib.hid (HFx.out _ _ HB4.out hb)
            clear x0 x1 x2 y0 y1 y2 z0 z1 z2 lX lY lZ
            obtain ⟨⟨x0, x1, x2, y0, y1, y2, z0, z1, z2, lX, lY, lZ⟩, hw⟩ := HAf.out _ HB5.out
            have HW5 := Lib.hid hw
            clear hb hw
            go_wp2_with fail
            refine (HP2.out _ HW5.out).mono ?_
            rintro e w6 ⟨rfl, hb⟩
            have HB6 := Lib.hid (HFx.out _ _ HB5.out hb)
            clear x0 x1 x2 y0 y1 y2 z0 z1 z2 lX lY lZ
            obtain ⟨⟨x0, x1, x2, y0, y1, y2, z0, z1, z2, lX, lY, lZ⟩, hw⟩ := HAf.out _ HB6.out
            have HW6 := Lib.hid hw
            clear hb hw
            go_wp2_with fail
            refine (HP3.out _ HW6.out).mono ?_
            rintro e w7 ⟨rfl, hb⟩
            have HB7 := Lib.hid (HFx.out _ _ HB6.out hb)
            clear x0 x1 x2 y0 y1 y2 z0 z1 z2 lX lY lZ
            obtain ⟨⟨x0, x1, x2, y0, y1, y2, z0, z1, z2, lX, lY, lZ⟩, hw⟩ := HAf.out _ HB7.out
            have HW7 := Lib.hid hw
            clear hb hw
            go_wp2
            go_ret
            exact ⟨rfl, HW7.out⟩
      · obtain rfl := hm1 rfl rfl
        clear hm1
        go_enter Tryd.func8, Tryd.ntmps8
        go_wp2_with fail
        refine (HAw.out _ HW0.out).mono ?_
        rintro e w1 ⟨rfl, hb⟩
        have HB1 := Lib.hid (HFx.out _ _ HB0.out hb)
        obtain ⟨⟨x0, x1, x2, y0, y1, y2, z0, z1, z2, lX, lY, lZ⟩, hw⟩ := HAf.out _ HB1.out
        have HW1 := Lib.hid hw
        clear hb hw
        have hba : Below w1.heap.size w1 (w1.alloc (.cells #[.int .i64 a.kind, .slice an a.names.length cn, .slice aa a.args.length ca, .int .i64 b.kind, .slice bn b.names.length dn, .slice bb b.args.length db, .int .i64 c.kind, .slice en c.names.length fn, .slice cc c.args.length cd] 25)) := (Below.refl _ _).alloc (Nat.le_refl _) _
        have HBa := Lib.hid (HFx.out _ _ HB1.out hba)
        have HWa := Lib.hid (HAf.out _ HBa.out).2
        have HFe := Lib.hid (fews_any [a, b, c] _ _ (row3_at (Has.new w1 25 [.int .i64 a.kind, .slice an a.names.length cn, .slice aa a.args.length ca, .int .i64 b.kind, .slice bn b.names.length dn, .slice bb b.args.length db, .int .i64 c.kind, .slice en c.names.length fn, .slice cc c.args.length cd]) (HTa.out _ HWa.out) (HTb.out _ HWa.out) (HTc.out _ HWa.out)) (by simp; exact ⟨oka, okb, okc⟩) (by simp))
        clear hba
        rw [hfw] at HFe
        go_wp2_with fail
        refine (HFe.out).mono ?_
        rintro e w2 ⟨rfl, hb⟩
        have HB2 := Lib.hid (HFx.out _ _ HBa.out hb)
        clear x0 x1 x2 y0 y1 y2 z0 z1 z2 lX lY lZ
        obtain ⟨⟨x0, x1, x2, y0, y1, y2, z0, z1, z2, lX, lY, lZ⟩, hw⟩ := HAf.out _ HB2.out
        have HW2 := Lib.hid hw
        clear hb hw
        go_wp2_with fail
        refine (HS1.out _ HW2.out).mono ?_
        rintro e w3 ⟨rfl, hb⟩
        have HB3 := Lib.hid (HFx.out _ _ HB2.out hb)
        clear x0 x1 x2 y0 y1 y2 z0 z1 z2 lX lY lZ
        obtain ⟨⟨x0, x1, x2, y0, y1, y2, z0, z1, z2, lX, lY, lZ⟩, hw⟩ := HAf.out _ HB3.out
        have HW3 := Lib.hid hw
        clear hb hw
        go_wp2_with fail
        refine (HS2.out _ HW3.out).mono ?_
        rintro e w4 ⟨rfl, hb⟩
        have HB4 := Lib.hid (HFx.out _ _ HB3.out hb)
        clear x0 x1 x2 y0 y1 y2 z0 z1 z2 lX lY lZ
        obtain ⟨⟨x0, x1, x2, y0, y1, y2, z0, z1, z2, lX, lY, lZ⟩, hw⟩ := HAf.out _ HB4.out
        have HW4 := Lib.hid hw
        clear hb hw
        go_wp2_with fail
        refine (HS3.out _ HW4.out).mono ?_
        rintro e w5 ⟨rfl, hb⟩
        have HB5 := Lib.hid (HFx.out _ _ HB4.out hb)
        clear x0 x1 x2 y0 y1 y2 z0 z1 z2 lX lY lZ
        obtain ⟨⟨x0, x1, x2, y0, y1, y2, z0, z1, z2, lX, lY, lZ⟩, hw⟩ := HAf.out _ HB5.out
        have HW5 := Lib.hid hw
        clear hb hw
        cases p1
        · clear hm2
          go_wp2_with fail
          refine (HP1.out _ HW5.out).mono ?_
          rintro e w6 ⟨rfl, hb⟩
          have HB6 := Lib.hid (HFx.out _ _ HB5.out hb)
          clear x0 x1 x2 y0 y1 y2 z0 z1 z2 lX lY lZ
          obtain ⟨⟨x0, x1, x2, y0, y1, y2, z0, z1, z2, lX, lY, lZ⟩, hw⟩ := HAf.out _ HB6.out
          have HW6 := Lib.hid hw
          clear hb hw
          go_wp2
          go_ret
          exact ⟨rfl, HW6.out⟩
        · cases p2
          · clear hm2
            go_wp2_with fail
            refine (HP1.out _ HW5.out).mono ?_
            rintro e w6 ⟨rfl, hb⟩
            have HB6 := Lib.hid (HFx.out _ _ HB5.out hb)
            clear x0 x1 x2 y0 y1 y2 z0 z1 z2 lX lY lZ
            obtain ⟨⟨x0, x1, x2, y0, y1, y2, z0, z1, z2, lX, lY, lZ⟩, hw⟩ := HAf.out _ HB6.out
            have HW6 := Lib.hid hw
            clear hb hw
            go_wp2_with fail
            refine (HP2.out _ HW6.out).mono ?_
            rintro e w7 ⟨rfl, hb⟩
            have HB7 := Lib.hid (HFx.out _ _ HB6.out hb)
            clear x0 x1 x2 y0 y1 y2 z0 z1 z2 lX lY lZ
            obtain ⟨⟨x0, x1, x2, y0, y1, y2, z0, z1, z2, lX, lY, lZ⟩, hw⟩ := HAf.out _ HB7.out
            have HW7 := Lib.hid hw
            clear hb hw
            go_wp2
            go_ret
            exact ⟨rfl, HW7.out⟩
          · obtain rfl := hm2 rfl rfl
            clear hm2
            go_wp2_with fail
            refine (HP1.out _ HW5.out).mono ?_
            rintro e w6 ⟨rfl, hb⟩
            have HB6 := Lib.hid (HFx.out _ _ HB5.out hb)
            clear x0 x1 x2 y0 y1 y2 z0 z1 z2 lX lY lZ
            obtain ⟨⟨x0, x1, x2, y0, y1, y2, z0, z1, z2, lX, lY, lZ⟩, hw⟩ := HAf.out _ HB6.out
            have HW6 := Lib.hid hw
            clear hb hw
            go_wp2_with fail
            refine (HP2.out _ HW6.out).mono ?_
            rintro e w7 ⟨rfl, hb⟩
            have HB7 := Lib.hid (HFx.out _ _ HB6.out hb)
            clear x0 x1 x2 y0 y1 y2 z0 z1 z2 lX lY lZ
            obtain ⟨⟨x0, x1, x2, y0, y1, y2, z0, z1, z2, lX, lY, lZ⟩, hw⟩ := HAf.out _ HB7.out
            have HW7 := Lib.hid hw
            clear hb hw
            go_wp2_with fail
            refine (HP3.out _ HW7.out).mono ?_
            rintro e w8 ⟨rfl, hb⟩
            have HB8 := Lib.hid (HFx.out _ _ HB7.out hb)
            clear x0 x1 x2 y0 y1 y2 z0 z1 z2 lX lY lZ
            obtain ⟨⟨x0, x1, x2, y0, y1, y2, z0, z1, z2, lX, lY, lZ⟩, hw⟩ := HAf.out _ HB8.out
            have HW8 := Lib.hid hw
            clear hb hw
            go_wp2
            go_ret
            exact ⟨rfl, HW8.out⟩
set_option maxRecDepth 100000 in
set_option maxHeartbeats 16000000 in
theorem vague_u (a : Ty) (vn va : Value) (b : Ty) (un ua : Value) (w : World) (oka : TyOk a) (ha : TyAt w vn va a) (okb : TyOk b) (hb : TyAt w un ua b) (hT : WTab w) (hK : KTab w) :
    Calls Tryd.prog 12 #[.agg #[.int .i64 a.kind, vn, va], .agg #[.int .i64 b.kind, un, ua]] w (BoolB w true) := by
  have HTa := Lib.hid (fun (W : World) (h : Below w.heap.size w W) => ha.frame (Nat.le_refl _) h)
  have HTb := Lib.hid (fun (W : World) (h : Below w.heap.size w W) => hb.frame (Nat.le_refl _) h)
  have HAw := Lib.hid (fun (W : World) (h : Below w.heap.size w W) => awake_any W (hT.below h) (hK.below h))
  have HP1 := Lib.hid (fun (W : World) (h : Below w.heap.size w W) => precT_any a b _ _ _ _ W oka okb (HTa.out _ h) (HTb.out _ h) (hT.below h))
  have HP2 := Lib.hid (fun (W : World) (h : Below w.heap.size w W) => precT_any b a _ _ _ _ W okb oka (HTb.out _ h) (HTa.out _ h) (hT.below h))
  have HSm := Lib.hid (fun (W : World) (h : Below w.heap.size w W) => refSame_any a b _ _ _ _ W oka okb (HTa.out _ h) (HTb.out _ h))
  have HVb := Lib.hid (fun (W : World) (h : Below w.heap.size w W) => refVague_any b _ _ W okb (HTb.out _ h))
  clear hT hK
  have HM := Lib.hid (vague_fact a b)
  generalize precT a b = p1 at HP1 HM
  generalize precT b a = p2 at HP2 HM
  generalize sameV a b = sm at HSm HM
  generalize vagueV b = qb at HVb HM
  obtain ⟨an, cn, aa, ca, rfl, rfl⟩ := ha.shape
  obtain ⟨bn, dn, bb, db, rfl, rfl⟩ := hb.shape
  obtain ⟨hh0, hh1, hbw, hsz⟩ := box2w w [.int .i64 a.kind, .slice an a.names.length cn, .slice aa a.args.length ca] [.int .i64 b.kind, .slice bn b.names.length dn, .slice bb b.args.length db] 25 _ rfl
  have HAf : Hid (∀ W, Below (w.heap.size + 1 + 1) ((w.alloc (.cells #[.int .i64 a.kind, .slice an a.names.length cn, .slice aa a.args.length ca] 25)).alloc (.cells #[.int .i64 b.kind, .slice bn b.names.length dn, .slice bb b.args.length db] 25)) W → (W.cell? ⟨w.heap.size, 0, none⟩ = some (.int .i64 a.kind) ∧ W.cell? ⟨w.heap.size, 1, none⟩ = some (.slice an a.names.length cn) ∧ W.cell? ⟨w.heap.size, 2, none⟩ = some (.slice aa a.args.length ca) ∧ W.cell? ⟨w.heap.size + 1, 0, none⟩ = some (.int .i64 b.kind) ∧ W.cell? ⟨w.heap.size + 1, 1, none⟩ = some (.slice bn b.names.length dn) ∧ W.cell? ⟨w.heap.size + 1, 2, none⟩ = some (.slice bb b.args.length db) ∧ w.heap.size < W.heap.size ∧ w.heap.size + 1 < W.heap.size) ∧ Below w.heap.size w W) := Lib.hid (fun W h => by
    have g0 := hh0.below h (by omega)
    have g1 := hh1.below h (by omega)
    exact ⟨⟨g0.cell 0, g0.cell 1, g0.cell 2, g1.cell 0, g1.cell 1, g1.cell 2, g0.lt, g1.lt⟩, hbw.trans (h.mono (by omega))⟩)
  have HB0 : Hid (Below (w.heap.size + 1 + 1) ((w.alloc (.cells #[.int .i64 a.kind, .slice an a.names.length cn, .slice aa a.args.length ca] 25)).alloc (.cells #[.int .i64 b.kind, .slice bn b.names.length dn, .slice bb b.args.length db] 25)) ((w.alloc (.cells #[.int .i64 a.kind, .slice an a.names.length cn, .slice aa a.args.length ca] 25)).alloc (.cells #[.int .i64 b.kind, .slice bn b.names.length dn, .slice bb b.args.length db] 25))) := Lib.hid (Below.refl _ _)
  have HW0 := Lib.hid (HAf.out _ HB0.out).2
  have HFx : Hid (∀ W W', Below (w.heap.size + 1 + 1) ((w.alloc (.cells #[.int .i64 a.kind, .slice an a.names.length cn, .slice aa a.args.length ca] 25)).alloc (.cells #[.int .i64 b.kind, .slice bn b.names.length dn, .slice bb b.args.length db] 25)) W → Below W.heap.size W W' → Below (w.heap.size + 1 + 1) ((w.alloc (.cells #[.int .i64 a.kind, .slice an a.names.length cn, .slice aa a.args.length ca] 25)).alloc (.cells #[.int .i64 b.kind, .slice bn b.names.length dn, .slice bb b.args.length db] 25)) W') := Lib.hid (fun W W' h1 h2 => h1.trans (h2.mono (by have := h1.size; rw [hsz] at this; exact this)))
  clear ha hb hbw hsz hh0 hh1
  obtain ⟨fw, hfw⟩ : ∃ fw, [a, b].all fewV = fw := ⟨_, rfl⟩
  cases fw
  · clear HM
    go_enter Tryd.func12, Tryd.ntmps12
    go_wp2_with fail
    refine (HAw.out _ HW0.out).mono ?_
    rintro e w1 ⟨rfl, hb⟩
    have HB1 := Lib.hid (HFx.out _ _ HB0.out hb)
    obtain ⟨⟨x0, x1, x2, y0, y1, y2, lX, lY⟩, hw⟩ := HAf.out _ HB1.out
    have HW1 := Lib.hid hw
    clear hb hw
    have hba : Below w1.heap.size w1 (w1.alloc (.cells #[.int .i64 a.kind, .slice an a.names.length cn, .slice aa a.args.length ca, .int .i64 b.kind, .slice bn b.names.length dn, .slice bb b.args.length db] 25)) := (Below.refl _ _).alloc (Nat.le_refl _) _
    have HBa := Lib.hid (HFx.out _ _ HB1.out hba)
    have HWa := Lib.hid (HAf.out _ HBa.out).2
    have HFe := Lib.hid (fews_any [a, b] _ _ (row2_at (Has.new w1 25 [.int .i64 a.kind, .slice an a.names.length cn, .slice aa a.args.length ca, .int .i64 b.kind, .slice bn b.names.length dn, .slice bb b.args.length db]) (HTa.out _ HWa.out) (HTb.out _ HWa.out)) (by simp; exact ⟨oka, okb⟩) (by simp))
    clear hba
    rw [hfw] at HFe
    go_wp2_with fail
    refine (HFe.out).mono ?_
    rintro e w2 ⟨rfl, hb⟩
    have HB2 := Lib.hid (HFx.out _ _ HBa.out hb)
    clear x0 x1 x2 y0 y1 y2 lX lY
    obtain ⟨⟨x0, x1, x2, y0, y1, y2, lX, lY⟩, hw⟩ := HAf.out _ HB2.out
    have HW2 := Lib.hid hw
    clear hb hw
    go_wp2
    go_ret
    exact ⟨rfl, HW2.out⟩
  · cases p1
    · clear HM
      go_enter Tryd.func12, Tryd.ntmps12
      go_wp2_with fail
      refine (HAw.out _ HW0.out).mono ?_
      rintro e w1 ⟨rfl, hb⟩
      have HB1 := Lib.hid (HFx.out _ _ HB0.out hb)
      obtain ⟨⟨x0, x1, x2, y0, y1, y2, lX, lY⟩, hw⟩ := HAf.out _ HB1.out
      have HW1 := Lib.hid hw
      clear hb hw
      have hba : Below w1.heap.size w1 (w1.alloc (.cells #[.int .i64 a.kind, .slice an a.names.length cn, .slice aa a.args.length ca, .int .i64 b.kind, .slice bn b.names.length dn, .slice bb b.args.length db] 25)) := (Below.refl _ _).alloc (Nat.le_refl _) _
      have HBa := Lib.hid (HFx.out _ _ HB1.out hba)
      have HWa := Lib.hid (HAf.out _ HBa.out).2
      have HFe := Lib.hid (fews_any [a, b] _ _ (row2_at (Has.new w1 25 [.int .i64 a.kind, .slice an a.names.length cn, .slice aa a.args.length ca, .int .i64 b.kind, .slice bn b.names.length dn, .slice bb b.args.length db]) (HTa.out _ HWa.out) (HTb.out _ HWa.out)) (by simp; exact ⟨oka, okb⟩) (by simp))
      clear hba
      rw [hfw] at HFe
      go_wp2_with fail
      refine (HFe.out).mono ?_
      rintro e w2 ⟨rfl, hb⟩
      have HB2 := Lib.hid (HFx.out _ _ HBa.out hb)
      clear x0 x1 x2 y0 y1 y2 lX lY
      obtain ⟨⟨x0, x1, x2, y0, y1, y2, lX, lY⟩, hw⟩ := HAf.out _ HB2.out
      have HW2 := Lib.hid hw
      clear hb hw
      go_wp2_with fail
      refine (HP1.out _ HW2.out).mono ?_
      rintro e w3 ⟨rfl, hb⟩
      have HB3 := Lib.hid (HFx.out _ _ HB2.out hb)
      clear x0 x1 x2 y0 y1 y2 lX lY
      obtain ⟨⟨x0, x1, x2, y0, y1, y2, lX, lY⟩, hw⟩ := HAf.out _ HB3.out
      have HW3 := Lib.hid hw
      clear hb hw
      go_wp2
      go_ret
      exact ⟨rfl, HW3.out⟩
    · rcases HM.out rfl with rfl | ⟨rfl, rfl⟩
      · clear HM
        go_enter Tryd.func12, Tryd.ntmps12
        go_wp2_with fail
        refine (HAw.out _ HW0.out).mono ?_
        rintro e w1 ⟨rfl, hb⟩
        have HB1 := Lib.hid (HFx.out _ _ HB0.out hb)
        obtain ⟨⟨x0, x1, x2, y0, y1, y2, lX, lY⟩, hw⟩ := HAf.out _ HB1.out
        have HW1 := Lib.hid hw
        clear hb hw
        have hba : Below w1.heap.size w1 (w1.alloc (.cells #[.int .i64 a.kind, .slice an a.names.length cn, .slice aa a.args.length ca, .int .i64 b.kind, .slice bn b.names.length dn, .slice bb b.args.length db] 25)) := (Below.refl _ _).alloc (Nat.le_refl _) _
        have HBa := Lib.hid (HFx.out _ _ HB1.out hba)
        have HWa := Lib.hid (HAf.out _ HBa.out).2
        have HFe := Lib.hid (fews_any [a, b] _ _ (row2_at (Has.new w1 25 [.int .i64 a.kind, .slice an a.names.length cn, .slice aa a.args.length ca, .int .i64 b.kind, .slice bn b.names.length dn, .slice bb b.args.length db]) (HTa.out _ HWa.out) (HTb.out _ HWa.out)) (by simp; exact ⟨oka, okb⟩) (by simp))
        clear hba
        rw [hfw] at HFe
        go_wp2_with fail
        refine (HFe.out).mono ?_
        rintro e w2 ⟨rfl, hb⟩
        have HB2 := Lib.hid (HFx.out _ _ HBa.out hb)
        clear x0 x1 x2 y0 y1 y2 lX lY
        obtain ⟨⟨x0, x1, x2, y0, y1, y2, lX, lY⟩, hw⟩ := HAf.out _ HB2.out
        have HW2 := Lib.hid hw
        clear hb hw
        go_wp2_with fail
        refine (HP1.out _ HW2.out).mono ?_
        rintro e w3 ⟨rfl, hb⟩
        have HB3 := Lib.hid (HFx.out _ _ HB2.out hb)
        clear x0 x1 x2 y0 y1 y2 lX lY
        obtain ⟨⟨x0, x1, x2, y0, y1, y2, lX, lY⟩, hw⟩ := HAf.out _ HB3.out
        have HW3 := Lib.hid hw
        clear hb hw
        go_wp2_with fail
        refine (HSm.out _ HW3.out).mono ?_
        rintro e w4 ⟨rfl, hb⟩
        have HB4 := Lib.hid (HFx.out _ _ HB3.out hb)
        clear x0 x1 x2 y0 y1 y2 lX lY
        obtain ⟨⟨x0, x1, x2, y0, y1, y2, lX, lY⟩, hw⟩ := HAf.out _ HB4.out
        have HW4 := Lib.hid hw
        clear hb hw
        go_wp2
        go_ret
        exact ⟨rfl, HW4.out⟩
      · clear HM
        cases sm
        · go_enter Tryd.func12, Tryd.ntmps12
          go_wp2_with fail
          refine (HAw.out _ HW0.out).mono ?_
          rintro e w1 ⟨rfl, hb⟩
          have HB1 := Lib.hid (HFx.out _ _ HB0.out hb)
          obtain ⟨⟨x0, x1, x2, y0, y1, y2, lX, lY⟩, hw⟩ := HAf.out _ HB1.out
          have HW1 := Lib.hid hw
          clear hb hw
          have hba : Below w1.heap.size w1 (w1.alloc (.cells #[.int .i64 a.kind, .slice an a.names.length cn, .slice aa a.args.length ca, .int .i64 b.kind, .slice bn b.names.length dn, .slice bb b.args.length db] 25)) := (Below.refl _ _).alloc (Nat.le_refl _) _
          have HBa := Lib.hid (HFx.out _ _ HB1.out hba)
          have HWa := Lib.hid (HAf.out _ HBa.out).2
          have HFe := Lib.hid (fews_any [a, b] _ _ (row2_at (Has.new w1 25 [.int .i64 a.kind, .slice an a.names.length cn, .slice aa a.args.length ca, .int .i64 b.kind, .slice bn b.names.length dn, .slice bb b.args.length db]) (HTa.out _ HWa.out) (HTb.out _ HWa.out)) (by simp; exact ⟨oka, okb⟩) (by simp))
          clear hba
          rw [hfw] at HFe
          go_wp2_with fail
          refine (HFe.out).mono ?_
          rintro e w2 ⟨rfl, hb⟩
          have HB2 := Lib.hid (HFx.out _ _ HBa.out hb)
          clear x0 x1 x2 y0 y1 y2 lX lY
          obtain ⟨⟨x0, x1, x2, y0, y1, y2, lX, lY⟩, hw⟩ := HAf.out _ HB2.out
          have HW2 := Lib.hid hw
          clear hb hw
          go_wp2_with fail
          refine (HP1.out _ HW2.out).mono ?_
          rintro e w3 ⟨rfl, hb⟩
          have HB3 := Lib.hid (HFx.out _ _ HB2.out hb)
          clear x0 x1 x2 y0 y1 y2 lX lY
          obtain ⟨⟨x0, x1, x2, y0, y1, y2, lX, lY⟩, hw⟩ := HAf.out _ HB3.out
          have HW3 := Lib.hid hw
          clear hb hw
          go_wp2_with fail
          refine (HSm.out _ HW3.out).mono ?_
          rintro e w4 ⟨rfl, hb⟩
          have HB4 := Lib.hid (HFx.out _ _ HB3.out hb)
          clear x0 x1 x2 y0 y1 y2 lX lY
          obtain ⟨⟨x0, x1, x2, y0, y1, y2, lX, lY⟩, hw⟩ := HAf.out _ HB4.out
          have HW4 := Lib.hid hw
          clear hb hw
          go_wp2_with fail
          refine (HVb.out _ HW4.out).mono ?_
          rintro e w5 ⟨rfl, hb⟩
          have HB5 := Lib.hid (HFx.out _ _ HB4.out hb)
          clear x0 x1 x2 y0 y1 y2 lX lY
          obtain ⟨⟨x0, x1, x2, y0, y1, y2, lX, lY⟩, hw⟩ := HAf.out _ HB5.out
          have HW5 := Lib.hid hw
          clear hb hw
          go_wp2_with fail
          refine (HP2.out _ HW5.out).mono ?_
          rintro e w6 ⟨rfl, hb⟩
          have HB6 := Lib.hid (HFx.out _ _ HB5.out hb)
          clear x0 x1 x2 y0 y1 y2 lX lY
          obtain ⟨⟨x0, x1, x2, y0, y1, y2, lX, lY⟩, hw⟩ := HAf.out _ HB6.out
          have HW6 := Lib.hid hw
          clear hb hw
          go_wp2
          go_ret
          exact ⟨rfl, HW6.out⟩
        · go_enter Tryd.func12, Tryd.ntmps12
          go_wp2_with fail
          refine (HAw.out _ HW0.out).mono ?_
          rintro e w1 ⟨rfl, hb⟩
          have HB1 := Lib.hid (HFx.out _ _ HB0.out hb)
          obtain ⟨⟨x0, x1, x2, y0, y1, y2, lX, lY⟩, hw⟩ := HAf.out _ HB1.out
          have HW1 := Lib.hid hw
          clear hb hw
          have hba : Below w1.heap.size w1 (w1.alloc (.cells #[.int .i64 a.kind, .slice an a.names.length cn, .slice aa a.args.length ca, .int .i64 b.kind, .slice bn b.names.length dn, .slice bb b.args.length db] 25)) := (Below.refl _ _).alloc (Nat.le_refl _) _
          have HBa := Lib.hid (HFx.out _ _ HB1.out hba)
          have HWa := Lib.hid (HAf.out _ HBa.out).2
          have HFe := Lib.hid (fews_any [a, b] _ _ (row2_at (Has.new w1 25 [.int .i64 a.kind, .slice an a.names.length cn, .slice aa a.args.length ca, .int .i64 b.kind, .slice bn b.names.length dn, .slice bb b.args.length db]) (HTa.out _ HWa.out) (HTb.out _ HWa.out)) (by simp; exact ⟨oka, okb⟩) (by simp))
          clear hba
          rw [hfw] at HFe
          go_wp2_with fail
          refine (HFe.out).mono ?_
          rintro e w2 ⟨rfl, hb⟩
          have HB2 := Lib.hid (HFx.out _ _ HBa.out hb)
          clear x0 x1 x2 y0 y1 y2 lX lY
          obtain ⟨⟨x0, x1, x2, y0, y1, y2, lX, lY⟩, hw⟩ := HAf.out _ HB2.out
          have HW2 := Lib.hid hw
          clear hb hw
          go_wp2_with fail
          refine (HP1.out _ HW2.out).mono ?_
          rintro e w3 ⟨rfl, hb⟩
          have HB3 := Lib.hid (HFx.out _ _ HB2.out hb)
          clear x0 x1 x2 y0 y1 y2 lX lY
          obtain ⟨⟨x0, x1, x2, y0, y1, y2, lX, lY⟩, hw⟩ := HAf.out _ HB3.out
          have HW3 := Lib.hid hw
          clear hb hw
          go_wp2_with fail
          refine (HSm.out _ HW3.out).mono ?_
          rintro e w4 ⟨rfl, hb⟩
          have HB4 := Lib.hid (HFx.out _ _ HB3.out hb)
          clear x0 x1 x2 y0 y1 y2 lX lY
          obtain ⟨⟨x0, x1, x2, y0, y1, y2, lX, lY⟩, hw⟩ := HAf.out _ HB4.out
          have HW4 := Lib.hid hw
          clear hb hw
          go_wp2
          go_ret
          exact ⟨rfl, HW4.out⟩
end TyD
end Go.Proofs.YthcdbmbimdkcfaaDoor
