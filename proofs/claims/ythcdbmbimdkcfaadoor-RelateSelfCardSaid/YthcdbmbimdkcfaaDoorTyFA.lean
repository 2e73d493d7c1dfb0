/- Shapes' fields, functions' parts: the program's ways through both. -/
import Derived.Test.YthcdbmbimdkcfaaDoorTyFind
import Derived.Test.YthcdbmbimdkcfaaDoorTySame
namespace Go.Proofs.YthcdbmbimdkcfaaDoor
open Go.RowKit ObjM
namespace TyD

theorem zipDrop_all {α β : Type} {f : α × β → Bool} {a : List α} {b : List β} {k : Nat} (ha : k < a.length) (hb : k < b.length) : ((a.drop k).zip (b.drop k)).all f = (f (a[k], b[k]) && ((a.drop (k + 1)).zip (b.drop (k + 1))).all f) := by
  rw [List.drop_eq_getElem_cons ha, List.drop_eq_getElem_cons hb]
  rfl
theorem arrowDrop {p : Ty → Ty → Bool} {ts us : List Ty} {j : Nat} (h1 : j + 1 < ts.length) (h2 : j + 1 < us.length) : ((ts.dropLast.drop j).zip (us.dropLast.drop j)).all (fun x => p x.2 x.1) = (p (us[j]'(by omega)) (ts[j]'(by omega)) && ((ts.dropLast.drop (j + 1)).zip (us.dropLast.drop (j + 1))).all (fun x => p x.2 x.1)) := by
  have ha : j < ts.dropLast.length := by simp; omega
  have hb : j < us.dropLast.length := by simp; omega
  rw [zipDrop_all ha hb]
  simp [List.getElem_dropLast]
theorem last_at {ts : List Ty} {m : Nat} (h : ts.length = m + 1) : ts.getLastD anyT = ts[m]'(by omega) := by
  rw [List.getLastD_eq_getLast?, List.getLast?_eq_getElem?, show ts.length - 1 = m by omega, List.getElem?_eq_getElem (by omega)]
  rfl
set_option maxRecDepth 100000 in
set_option maxHeartbeats 16000000 in
theorem fieldsSame (p : Ty → Ty → Bool) (a b : Ty) (vn va un ua : Value) (w : World) (S : World → Prop) (oka : TyOk a) (okb : TyOk b) (ha : TyAt w vn va a) (hb : TyAt w un ua b)
    (hla : a.names.length = a.args.length) (hra : risingB a.names = true) (hlb : b.names.length = b.args.length)
    (hf : ∀ (x y : Ty) (vn va un ua : Value) (W : World), x ∈ a.args → y ∈ b.args → TyAt W vn va x → TyAt W un ua y → S W → Calls Tryd.prog 55 #[.agg #[.int .i64 x.kind, vn, va], .agg #[.int .i64 y.kind, un, ua]] W (BoolB W (p x y)))
    (hS : ∀ W, Below w.heap.size w W → S W) :
    Calls Tryd.prog 54 #[.agg #[.int .i64 a.kind, vn, va], .agg #[.int .i64 b.kind, un, ua], .func (.func 55) #[] #[]] w (BoolB w (fieldsB p a b)) := by
  obtain ⟨k, ns, ts⟩ := a
  obtain ⟨k', ns', ts'⟩ := b
  obtain ⟨hn, ht⟩ := ha.parts
  obtain ⟨hn', ht'⟩ := hb.parts
  obtain ⟨_, ok1, _, ok3, _⟩ := oka.parts
  obtain ⟨_, ok1', ok2', ok3', _⟩ := okb.parts
  change Calls _ _ #[.agg #[.int .i64 k, vn, va], .agg #[.int .i64 k', un, ua], _] w _
  change ns.length = ts.length at hla
  change risingB ns = true at hra
  change ns'.length = ts'.length at hlb
  obtain ⟨hh0, hh1, hbw, hsz⟩ := box2 w [.int .i64 k, vn, va] [.int .i64 k', un, ua] 25 _ rfl
  have HN' := Lib.hid (fun (W : World) (h : Below w.heap.size w W) => hn'.below (Nat.le_refl _) h)
  have HT := Lib.hid (fun (W : World) (h : Below w.heap.size w W) => ht.below (Nat.le_refl _) h)
  have HT' := Lib.hid (fun (W : World) (h : Below w.heap.size w W) => ht'.below (Nat.le_refl _) h)
  have HFi := Lib.hid (fun (s : ByteArray) (W : World) (h : Below w.heap.size w W) => search_any ns s vn W (hn.below (Nat.le_refl _) h) ok1 hra)
  have HS := Lib.hid hS
  have HPi := Lib.hid (fun (s : ByteArray) (h : s ∈ ns) => pos_in hra h)
  have HFn := Lib.hid hf
  have HLk : Hid (∀ (i : Nat) (s : ByteArray) (x : Ty), ns[i]? = some s → ts[i]? = some x → look (.mk k ns ts) s = some x) := Lib.hid (fun i s x h1 h2 => look_of (a := .mk k ns ts) hra (by
    refine List.mem_of_getElem? (i := i) ?_
    rw [List.getElem?_zip_eq_some]
    exact ⟨h1, h2⟩))
  have HNo : Hid (∀ s : ByteArray, s ∉ ns → look (.mk k ns ts) s = none) := Lib.hid (fun s h => by
    cases e : look (.mk k ns ts) s with
    | none => rfl
    | some x => exact absurd (zip_mem2 (look_mem e)).1 h)
  have HR : Hid (fieldsB p (.mk k ns ts) (.mk k' ns' ts') = ((ns'.drop 0).zip (ts'.drop 0)).all fun x => match look (.mk k ns ts) x.1 with | none => false | some y => p y x.2) := Lib.hid rfl
  generalize fieldsB p (.mk k ns ts) (.mk k' ns' ts') = R at HR ⊢
  generalize Ty.mk k ns ts = A at HLk HNo HR
  obtain ⟨an, cn, rfl⟩ := hn.shape
  obtain ⟨bn, dn, rfl⟩ := hn'.shape
  obtain ⟨at_, ct, rfl⟩ := ht.shape
  obtain ⟨bt, dt, rfl⟩ := ht'.shape
  have HBW := Lib.hid hbw
  have HH0 := Lib.hid hh0
  have HH1 := Lib.hid hh1
  obtain ⟨q, hq⟩ : ∃ q, ns.length = q := ⟨_, rfl⟩
  obtain ⟨m, hm⟩ : ∃ m, ns'.length = m := ⟨_, rfl⟩
  have HLq := Lib.hid hq
  have HLq2 := Lib.hid (hla.symm.trans hq)
  have HLm := Lib.hid hm
  have HLm2 := Lib.hid (hlb.symm.trans hm)
  rw [hq] at HBW HH0 HH1 HFi ok1 ⊢
  rw [hm] at HBW HH0 HH1 HN' ok1' ⊢
  rw [hla.symm.trans hq] at HBW HH0 HH1 HT ok3 ⊢
  rw [hlb.symm.trans hm] at HBW HH0 HH1 HT' ok3' ⊢
  have hqi : (q : Int) ≤ 140737488355328 := by omega
  have hmi : (m : Int) ≤ 140737488355328 := by omega
  clear hn ht hn' ht' ha hb oka okb ok2' hf hS hbw hh0 hh1 hsz hq hm hla hlb hra
  go_enter Tryd.func54, Tryd.ntmps54
  go_wp2
  change Code.wp _ _ _ _ (World.alloc (World.alloc w _) _)
  generalize World.alloc (World.alloc w (.cells #[.int .i64 k, .slice an q cn, .slice at_ q ct] 25)) (.cells #[.int .i64 k', .slice bn m dn, .slice bt m dt] 25) = w1 at HBW HH0 HH1 ⊢
  generalize hA : w.heap.size = B0 at HH0 HH1 ⊢
  have HAz := Lib.hid hA
  clear hA
  have HAf : Hid (∀ W, Below w1.heap.size w1 W → (W.cell? ⟨B0, 1, none⟩ = some (.slice an q cn) ∧ W.cell? ⟨B0, 2, none⟩ = some (.slice at_ q ct) ∧ B0 < W.heap.size) ∧ (W.cell? ⟨B0 + 1, 1, none⟩ = some (.slice bn m dn) ∧ W.cell? ⟨B0 + 1, 2, none⟩ = some (.slice bt m dt) ∧ B0 + 1 < W.heap.size) ∧ Below w.heap.size w W) := Lib.hid (fun W h => by
    have h0 := HH0.out.below h HH0.out.lt
    have h1 := HH1.out.below h HH1.out.lt
    exact ⟨⟨h0.cell 1, h0.cell 2, h0.lt⟩, ⟨h1.cell 1, h1.cell 2, h1.lt⟩, HBW.out.trans (h.mono HBW.out.size)⟩)
  go_loopw [13] (fun i wr => ∃ j : Nat, i = .int .i64 (j : Int) ∧ j ≤ m ∧ Hid (Below w1.heap.size w1 wr) ∧ Hid (R = ((ns'.drop j).zip (ts'.drop j)).all fun x => match look A x.1 with | none => false | some y => p y x.2)) (fun i _ => m - (intOf i).toNat)
  case atStart => exact ⟨0, rfl, by omega, Lib.hid (Below.refl _ _), HR⟩
  case round =>
    obtain ⟨j, rfl, hj, HB, HD⟩ := hrel
    obtain ⟨⟨x1, x2, lA⟩, ⟨y1, y2, lB⟩, hbr⟩ := HAf.out _ HB.out
    have HBr := Lib.hid hbr
    clear hbr
    by_cases hlt : j < m
    · have hi1 : (j : Int) < (m : Int) := by omega
      have hjn : j < ns'.length := by rw [HLm.out]; exact hlt
      have hjt : j < ts'.length := by rw [HLm2.out]; exact hlt
      have HD2 := Lib.hid (zipDrop_all (f := fun x => match look A x.1 with | none => false | some y => p y x.2) hjn hjt)
      obtain ⟨bs, os, rfl, hbs, c0⟩ := (HN'.out _ HBr.out).at j hjn
      obtain ⟨bb, ob, un, ub, rfl, hbb, d0, d1, d2, d3⟩ := (HT'.out _ HBr.out).at j hjt
      have HY := Lib.hid (fun (W : World) (hb : Below wr.heap.size wr W) => d3.frame (Nat.le_refl _) hb)
      have HFx := Lib.hid (fun (W : World) (h : Below w.heap.size w W) => HFi.out ns'[j] W h)
      have HFnj := Lib.hid (fun (x : Ty) (vn va un ua : Value) (W : World) (hx : x ∈ ts) (h1 : TyAt W vn va x) (h2 : TyAt W un ua ts'[j]) (h3 : S W) => HFn.out x ts'[j] vn va un ua W hx (List.getElem_mem hjt) h1 h2 h3)
      obtain ⟨bn2, dn2, bb2, db2, rfl, rfl⟩ := d3.shape
      have HAj := Lib.hid (fun (W : World) (h : Below wr.heap.size wr W) => HAf.out W (HB.out.trans (h.mono HB.out.size)))
      generalize ts'[j] = y at HD2 d0 d1 d2 d3 HFnj HY
      generalize ns'[j] = s at HD2 c0 HFx
      clear d3 hjn hjt
      go_wp2
      go_quiet ((go_at_call 73; with_reducible exact quiet_left (HFx.out _ (drewN_below HBr.out _))))
      have hb3r : Below wr.heap.size wr (wr.drewN nq) := drewN_below (Below.refl _ _) nq
      generalize World.drewN wr nq = w3 at hb3r ⊢
      obtain ⟨z, hz⟩ : ∃ z, hasN ns s = z := ⟨_, rfl⟩
      have hz1 := HPi.out s
      have hz2 : z = false → s ∉ ns := fun h => hasN_no.1 (hz.trans h)
      have hz3 : z = true → s ∈ ns := fun h => hasN_iff.1 (hz.trans h)
      rw [hz]
      obtain ⟨⟨p1, p2, mA⟩, ⟨q1, q2, mB⟩, hbr3⟩ := HAj.out w3 hb3r
      have HB3 := Lib.hid (HB.out.trans (hb3r.mono HB.out.size))
      have HB3r := Lib.hid hbr3
      have e0 := (hb3r.cell (p := ⟨bb, ob + j * 3, none⟩) hbb).trans d0
      have e1 := (hb3r.cell (p := ⟨bb, ob + j * 3 + 1, none⟩) hbb).trans d1
      have e2 := (hb3r.cell (p := ⟨bb, ob + j * 3 + 2, none⟩) hbb).trans d2
      have hbb3 := Nat.lt_of_lt_of_le hbb hb3r.size
      have HY3 := Lib.hid (HY.out w3 hb3r)
      cases z
      · have hno := HNo.out s (hz2 rfl)
        have HF : Hid (R = false) := Lib.hid (by rw [HD.out, HD2.out]; simp only [hno]; rfl)
        obtain rfl := HF.out
        clear HD HD2 HR hz hz1 hz2 hz3 hno hb3r hbr3
        go_wp2
        go_quiet (fail)
        go_wp2
        go_ret
        exact ⟨rfl, drewN_below HB3r.out _⟩
      · have hsi := hz1 (hz3 rfl)
        obtain ⟨i, hi9⟩ : ∃ i, posV ns s = i := ⟨_, rfl⟩
        rw [hi9] at hsi ⊢
        have hil : i < ns.length := (List.getElem?_eq_some_iff.1 hsi).1
        have hit : i < ts.length := by rw [HLq2.out, ← HLq.out]; exact hil
        have hiq : (i : Int) < (q : Int) := by have := HLq.out; omega
        obtain ⟨ba, oa, vn, va, rfl, hba, g0, g1, g2, g3⟩ := (HT.out _ HB3r.out).at i hit
        have hlk := HLk.out i s ts[i] hsi (List.getElem?_eq_getElem hit)
        have HD3 : Hid (R = (p ts[i] y && ((ns'.drop (j + 1)).zip (ts'.drop (j + 1))).all fun x => match look A x.1 with | none => false | some y => p y x.2)) := Lib.hid (by rw [HD.out, HD2.out]; simp only [hlk])
        have hdw : Below w3.heap.size w3 w3.drew := (Below.refl _ _).drew
        have HC := Lib.hid (HFnj.out ts[i] vn va _ _ w3.drew (List.getElem_mem hit) (g3.frame (Nat.le_refl _) hdw) (HY3.out.frame (Nat.le_refl _) hdw) (HS.out _ (HB3r.out.drew)))
        obtain ⟨an2, cn2, ab2, cb2, rfl, rfl⟩ := g3.shape
        generalize ts[i] = x at g0 g1 g2 g3 HC HD3 hlk
        clear hz
        obtain ⟨z, hz⟩ : ∃ z, p x y = z := ⟨_, rfl⟩
        rw [hz] at HC HD3
        clear HD HD2 hz1 hz2 hz3 hsi hil hit hlk g3 hz hb3r hbr3 hdw hi9
        go_wp2
        go_still_tail 14, (by kernel_rfl)
        change wpList _ _ _ _ _ w3.drew
        go_wp2_with fail
        refine (HC.out).mono ?_
        rintro e w4 ⟨rfl, hb4⟩
        have HB4 := Lib.hid (HB3.out.drew.trans (hb4.mono HB3.out.drew.size))
        have HB4r := Lib.hid (HAf.out _ HB4.out).2.2
        clear hb4
        cases z
        · have HF : Hid (R = false) := Lib.hid (by rw [HD3.out]; rfl)
          obtain rfl := HF.out
          clear HD3 HR
          go_wp2
          go_ret
          exact ⟨rfl, HB4r.out⟩
        · have HD4 : Hid (R = ((ns'.drop (j + 1)).zip (ts'.drop (j + 1))).all fun x => match look A x.1 with | none => false | some y => p y x.2) := Lib.hid (by rw [HD3.out]; rfl)
          clear HD3
          go_wp2
          go_roundw
          case rel => exact ⟨j + 1, by go_num, by omega, HB4, HD4⟩
          case measure => simp [intOf]; omega
    · have hjm : m = j := by omega
      have HF : Hid (R = true) := Lib.hid (by
        rw [HD.out, List.drop_eq_nil_of_le (by rw [HLm.out]; omega), List.drop_eq_nil_of_le (by rw [HLm2.out]; omega)]
        rfl)
      obtain rfl := HF.out
      subst hjm
      clear HR HD
      go_wp2
      go_ret
      exact ⟨rfl, HBr.out⟩
set_option maxRecDepth 100000 in
set_option maxHeartbeats 16000000 in
theorem arrowSub (p : Ty → Ty → Bool) (a b : Ty) (vn va un ua : Value) (w : World) (S : World → Prop) (oka : TyOk a) (okb : TyOk b) (ha : TyAt w vn va a) (hb : TyAt w un ua b) (hl1 : 1 ≤ a.args.length)
    (hf : ∀ (x y : Ty) (vn va un ua : Value) (W : World), (x ∈ a.args ∧ y ∈ b.args ∨ x ∈ b.args ∧ y ∈ a.args) → TyAt W vn va x → TyAt W un ua y → S W → Calls Tryd.prog 32 #[.agg #[.int .i64 x.kind, vn, va], .agg #[.int .i64 y.kind, un, ua]] W (BoolB W (p x y)))
    (hS : ∀ W, Below w.heap.size w W → S W) :
    Calls Tryd.prog 56 #[.agg #[.int .i64 a.kind, vn, va], .agg #[.int .i64 b.kind, un, ua], .func (.func 32) #[] #[]] w (BoolB w (arrowB p a.args b.args)) := by
  obtain ⟨k, ns, ts⟩ := a
  obtain ⟨k', ns', ts'⟩ := b
  obtain ⟨hn, ht⟩ := ha.parts
  obtain ⟨hn', ht'⟩ := hb.parts
  obtain ⟨_, ok1, _, ok3, _⟩ := oka.parts
  obtain ⟨_, ok1', ok2', ok3', _⟩ := okb.parts
  change Calls _ _ #[.agg #[.int .i64 k, vn, va], .agg #[.int .i64 k', un, ua], _] w (BoolB w (arrowB p ts ts'))
  change 1 ≤ ts.length at hl1
  obtain ⟨hh0, hh1, hbw, hsz⟩ := box2 w [.int .i64 k, vn, va] [.int .i64 k', un, ua] 25 _ rfl
  have HT := Lib.hid (fun (W : World) (h : Below w.heap.size w W) => ht.below (Nat.le_refl _) h)
  have HT' := Lib.hid (fun (W : World) (h : Below w.heap.size w W) => ht'.below (Nat.le_refl _) h)
  have HS := Lib.hid hS
  have HFn := Lib.hid hf
  obtain ⟨an, cn, rfl⟩ := hn.shape
  obtain ⟨bn, dn, rfl⟩ := hn'.shape
  obtain ⟨at_, ct, rfl⟩ := ht.shape
  obtain ⟨bt, dt, rfl⟩ := ht'.shape
  have HBW := Lib.hid hbw
  have HH0 := Lib.hid hh0
  have HH1 := Lib.hid hh1
  obtain ⟨R, hR⟩ : ∃ R, arrowB p ts ts' = R := ⟨_, rfl⟩
  have HR := Lib.hid hR
  rw [hR]
  obtain ⟨q, hq⟩ : ∃ q, ns.length = q := ⟨_, rfl⟩
  obtain ⟨q', hq'⟩ : ∃ q, ns'.length = q := ⟨_, rfl⟩
  rw [hq] at HBW HH0 HH1 ⊢
  rw [hq'] at HBW HH0 HH1 ⊢
  by_cases hlen : ts.length = ts'.length
  · obtain ⟨m, hm⟩ : ∃ m, ts.length = m + 1 := ⟨ts.length - 1, by omega⟩
    have hm' := hlen.symm.trans hm
    have HLm := Lib.hid hm
    have HLm' := Lib.hid hm'
    rw [hm] at HBW HH0 HH1 HT ok3 ⊢
    rw [hm'] at HBW HH0 HH1 HT' ok3' ⊢
    have hmi : (m : Int) ≤ 140737488355328 := by omega
    have hne : (((m + 1 : Nat) : Int) != ((m + 1 : Nat) : Int)) = false := by simp
    have hsub : ((m + 1 : Nat) : Int) - 1 = (m : Int) := by omega
    have HR2 : Hid (R = (((ts.dropLast.drop 0).zip (ts'.dropLast.drop 0)).all (fun x => p x.2 x.1) && p (ts.getLastD anyT) (ts'.getLastD anyT))) := Lib.hid (by
      rw [← HR.out]
      unfold arrowB
      rw [decide_eq_true hlen]
      rfl)
    clear hn ht hn' ht' ha hb oka okb ok2' ok1 ok1' hf hS hbw hh0 hh1 hsz hq hq' hlen hm hm' hl1 hR HR
    go_enter Tryd.func56, Tryd.ntmps56
    go_wp2
    change Code.wp _ _ _ _ (World.alloc (World.alloc w _) _)
    generalize World.alloc (World.alloc w (.cells #[.int .i64 k, .slice an q cn, .slice at_ (m + 1) ct] 25)) (.cells #[.int .i64 k', .slice bn q' dn, .slice bt (m + 1) dt] 25) = w1 at HBW HH0 HH1 ⊢
    generalize hA : w.heap.size = B0 at HH0 HH1 ⊢
    have HAz := Lib.hid hA
    clear hA
    have HAf : Hid (∀ W, Below w1.heap.size w1 W → (W.cell? ⟨B0, 2, none⟩ = some (.slice at_ (m + 1) ct) ∧ B0 < W.heap.size) ∧ (W.cell? ⟨B0 + 1, 2, none⟩ = some (.slice bt (m + 1) dt) ∧ B0 + 1 < W.heap.size) ∧ Below w.heap.size w W) := Lib.hid (fun W h => by
      have h0 := HH0.out.below h HH0.out.lt
      have h1 := HH1.out.below h HH1.out.lt
      exact ⟨⟨h0.cell 2, h0.lt⟩, ⟨h1.cell 2, h1.lt⟩, HBW.out.trans (h.mono HBW.out.size)⟩)
    go_loopw [21] (fun i wr => ∃ j : Nat, i = .int .i64 (j : Int) ∧ j ≤ m ∧ Hid (Below w1.heap.size w1 wr) ∧ Hid (R = (((ts.dropLast.drop j).zip (ts'.dropLast.drop j)).all (fun x => p x.2 x.1) && p (ts.getLastD anyT) (ts'.getLastD anyT)))) (fun i _ => m - (intOf i).toNat)
    case atStart => exact ⟨0, rfl, by omega, Lib.hid (Below.refl _ _), HR2⟩
    case round =>
      obtain ⟨j, rfl, hj, HB, HD⟩ := hrel
      obtain ⟨⟨x2, lA⟩, ⟨y2, lB⟩, hbr⟩ := HAf.out _ HB.out
      have HBr := Lib.hid hbr
      clear hbr
      have hdw : Below wr.heap.size wr wr.drew := (Below.refl _ _).drew
      by_cases hlt : j < m
      · have hi1 : (j : Int) < (m : Int) := by omega
        have hi2 : (j : Int) < ((m + 1 : Nat) : Int) := by omega
        have hi3 : (j : Int) < (m : Int) + 1 := by omega
        have hjt : j < ts.length := by rw [HLm.out]; omega
        have hjt' : j < ts'.length := by rw [HLm'.out]; omega
        have HD2 := Lib.hid (arrowDrop (p := p) (ts := ts) (us := ts') (j := j) (by rw [HLm.out]; omega) (by rw [HLm'.out]; omega))
        obtain ⟨ba, oa, vn, va, rfl, hba, c0, c1, c2, c3⟩ := (HT.out _ HBr.out).at j hjt
        obtain ⟨bb, ob, un, ub, rfl, hbb, d0, d1, d2, d3⟩ := (HT'.out _ HBr.out).at j hjt'
        have HC := Lib.hid (HFn.out ts'[j] ts[j] un ub vn va wr.drew (.inr ⟨List.getElem_mem hjt', List.getElem_mem hjt⟩) (d3.frame (Nat.le_refl _) hdw) (c3.frame (Nat.le_refl _) hdw) (HS.out _ HBr.out.drew))
        obtain ⟨an2, cn2, ab2, cb2, rfl, rfl⟩ := c3.shape
        obtain ⟨bn2, dn2, bb2, db2, rfl, rfl⟩ := d3.shape
        generalize ts[j] = x at HD2 c0 c1 c2 c3 HC
        generalize ts'[j] = y at HD2 d0 d1 d2 d3 HC
        obtain ⟨z, hz⟩ : ∃ z, p y x = z := ⟨_, rfl⟩
        rw [hz] at HC HD2
        clear c3 d3 hjt hjt' hz hdw
        go_wp2
        go_still_tail 11, (by kernel_rfl)
        change wpList _ _ _ _ _ wr.drew
        go_wp2_with fail
        refine (HC.out).mono ?_
        rintro e w4 ⟨rfl, hb4⟩
        have HB4 := Lib.hid (HB.out.drew.trans (hb4.mono HB.out.drew.size))
        have HB4r := Lib.hid (HAf.out _ HB4.out).2.2
        clear hb4
        cases z
        · have HF : Hid (R = false) := Lib.hid (by rw [HD.out, HD2.out]; rfl)
          obtain rfl := HF.out
          clear HD HD2 HR2
          go_wp2
          go_ret
          exact ⟨rfl, HB4r.out⟩
        · have HD4 : Hid (R = (((ts.dropLast.drop (j + 1)).zip (ts'.dropLast.drop (j + 1))).all (fun x => p x.2 x.1) && p (ts.getLastD anyT) (ts'.getLastD anyT))) := Lib.hid (by rw [HD.out, HD2.out]; rfl)
          clear HD HD2
          go_wp2
          go_roundw
          case rel => exact ⟨j + 1, by go_num, by omega, HB4, HD4⟩
          case measure => simp [intOf]; omega
      · have hjm : m = j := by omega
        subst hjm
        have hjt : m < ts.length := by rw [HLm.out]; omega
        have hjt' : m < ts'.length := by rw [HLm'.out]; omega
        have hi3 : (m : Int) < (m : Int) + 1 := by omega
        have HF : Hid (R = p ts[m] ts'[m]) := Lib.hid (by
          rw [HD.out, List.drop_eq_nil_of_le (by simp [HLm.out]), List.drop_eq_nil_of_le (by simp [HLm'.out]), last_at HLm.out, last_at HLm'.out]
          rfl)
        obtain ⟨ba, oa, vn, va, rfl, hba, c0, c1, c2, c3⟩ := (HT.out _ HBr.out).at m hjt
        obtain ⟨bb, ob, un, ub, rfl, hbb, d0, d1, d2, d3⟩ := (HT'.out _ HBr.out).at m hjt'
        have HC := Lib.hid (HFn.out ts[m] ts'[m] vn va un ub wr.drew (.inl ⟨List.getElem_mem hjt, List.getElem_mem hjt'⟩) (c3.frame (Nat.le_refl _) hdw) (d3.frame (Nat.le_refl _) hdw) (HS.out _ HBr.out.drew))
        obtain ⟨an2, cn2, ab2, cb2, rfl, rfl⟩ := c3.shape
        obtain ⟨bn2, dn2, bb2, db2, rfl, rfl⟩ := d3.shape
        generalize ts[m] = x at HF c0 c1 c2 c3 HC
        generalize ts'[m] = y at HF d0 d1 d2 d3 HC
        obtain ⟨z, hz⟩ : ∃ z, p x y = z := ⟨_, rfl⟩
        rw [hz] at HC HF
        obtain rfl := HF.out
        clear c3 d3 hjt hjt' hz hdw HD HR2
        go_wp2
        go_still_tail 11, (by kernel_rfl)
        change wpList _ _ _ _ _ wr.drew
        go_wp2_with fail
        refine (HC.out).mono ?_
        rintro e w4 ⟨rfl, hb4⟩
        have HB4 := Lib.hid (HBr.out.drew.trans (hb4.mono HBr.out.drew.size))
        clear hb4
        go_wp2
        go_ret
        exact ⟨rfl, HB4.out⟩
  · have hne : ((ts.length : Int) != (ts'.length : Int)) = true := by simp; omega
    have HF : Hid (R = false) := Lib.hid (by rw [← HR.out]; unfold arrowB; rw [decide_eq_false hlen]; rfl)
    obtain rfl := HF.out
    clear hn ht hn' ht' ha hb oka okb ok2' ok1 ok1' hf hS hbw hh0 hh1 hsz hq hq' hlen hl1 hR HR
    go_enter Tryd.func56, Tryd.ntmps56
    go_wp2
    go_ret
    exact ⟨rfl, HBW.out⟩
end TyD
end Go.Proofs.YthcdbmbimdkcfaaDoor
