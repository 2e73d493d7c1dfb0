/- Putting a new key where a map of places is there. -/
import Derived.Test.YtpmbbkhhnkhcbaaTab17
namespace Go.Proofs.Ytpmbbkhhnkhcbaa
open Go.RowKit ObjM Go.Maps
namespace TabD
open LabelM LabelD ValD

set_option maxRecDepth 100000 in
set_option maxHeartbeats 4000000 in
theorem put_new_more (B T lab : Nat) (fs : List Fd) (fv sv nm : Value) (pm : Option Nat) (c0 : Nat) (hc0 : c0 < M64) (key x : V) (hv : VOk key) (hx : VOk x) (hk : keyB key = true) (hkind : key.k = 3) (w : World) (h : IsT w B T lab fs fv pm sv nm)
    (hfit : ∀ W, Below w.heap.size w W → Calls Try.prog 34 #[.pointer (some ⟨T, 0, none⟩), .string key.s, .int .i64 x.k] W fun e w' => e = .returned (.bool true) ∧ Below W.heap.size W w') (hBw : B ≤ w.heap.size) (b : Nat) (hpm : pm = some b) (hpl : placeOf fs key = none) (hlen : fs.length < 1000000) (hfl : flowsB (c0 ||| key.l) lab = true) : Calls Try.prog 15 #[.pointer (some ⟨T, 0, none⟩), .int .u64 (c0 : Int), key.agg, x.agg] w (PutDid w B T lab (fs ++ [({ key with l := 0 }, x.with (c0 ||| key.l))]) fv pm sv nm) := by
  have HFit := Lib.hid hfit
  clear hfit
  subst hpm
  have hp1 : placeI fs key = 0 := by unfold placeI; rw [hpl]
  have hp2 : placeB fs key = false := by unfold placeB; rw [hpl]; rfl
  have HPL := Lib.hid hpl
  clear hpl
  have HK := fun W => Lib.hid (keyOf_any key W)
  unfold KeyIs at HK
  rw [hk] at HK
  have HT := Lib.hid (fun (W : World) (hb : Below w.heap.size w W) => h.below hb)
  have HL := Lib.hid (fun (W : World) (hb : Below w.heap.size w W) => look_places (h.below hb).2.2.1 key hv)
  have HW := Lib.hid (fun (W : World) (lv : Value) hj => with_any x lv (c0 ||| key.l) hx.2.2.2 (or_lt hc0 hv.2.2.2) W hj)
  have HJ2 := Lib.hid (fun (W : World) (n : Nat) h0 h1 => join2c c0 key.l hc0 hv.2.2.2 W n h0 h1)
  have HJ1 := Lib.hid (fun (W : World) (n : Nat) hc => join1_any (c0 ||| key.l) (or_lt hc0 hv.2.2.2) W n hc)
  have HFl := Lib.hid (fun (W : World) (y : Nat) (hy : y < M64) => flows_any (c0 ||| key.l) y (or_lt hc0 hv.2.2.2) hy W)
  have HV := Lib.hid hv
  have HX := Lib.hid hx
  have HH := Lib.hid h
  rw [hp1, hp2] at HL
  clear hk h hp1 hp2
  obtain ⟨vk, vn, vs, vl⟩ := key
  obtain ⟨xk, xn, xs, xl⟩ := x
  simp only [V.agg, V.with, kval] at HK HL HW HJ2 HJ1 HFl ⊢
  simp only at hkind
  subst hkind
  have HA := Lib.hid (((Below.refl w.heap.size w).alloc (Nat.le_refl _) (.cells #[.int .i64 3, .int .i64 vn, .string vs, .int .u64 (vl : Int)] 35)).alloc (by simp) (.cells #[.int .i64 xk, .int .i64 xn, .string xs, .int .u64 (xl : Int)] 35))
  have HKb := Lib.hid ((Has.new w 35 [.int .i64 3, .int .i64 vn, .string vs, .int .u64 (vl : Int)]).below ((Below.refl (w.heap.size + 1) (w.alloc (.cells #[.int .i64 3, .int .i64 vn, .string vs, .int .u64 (vl : Int)] 35))).alloc (by simp) (.cells #[.int .i64 xk, .int .i64 xn, .string xs, .int .u64 (xl : Int)] 35)) (by omega))
  have hXb := Has.new (w.alloc (.cells #[.int .i64 3, .int .i64 vn, .string vs, .int .u64 (vl : Int)] 35)) 35 [.int .i64 xk, .int .i64 xn, .string xs, .int .u64 (xl : Int)]
  simp only [World.size_alloc] at hXb
  have HXb := Lib.hid hXb
  clear hXb
  go_enter Try.func15, Try.ntmps15
  go_wp2_with fail
  refine ((HK _).out).mono ?_
  rintro e w1 ⟨rfl, hb1⟩
  have B1 := HA.out.trans (hb1.mono (by simp; omega))
  have i1 := (Below.refl w1.heap.size w1).alloc (Nat.le_refl _) (.cells #[.int .i64 3, .int .i64 vn, .string vs] 76)
  have kb2 := (HKb.out.below hb1 HKb.out.lt).below i1 (HKb.out.below hb1 HKb.out.lt).lt
  have xb2 := (HXb.out.below hb1 HXb.out.lt).below i1 (HXb.out.below hb1 HXb.out.lt).lt
  have ib2 := Has.new w1 76 [.int .i64 3, .int .i64 vn, .string vs]
  have hlw : w.heap.size + 1 < w1.heap.size := (HXb.out.below hb1 HXb.out.lt).lt
  have B2 := Lib.hid (B1.trans (i1.mono B1.size))
  have KB2 := Lib.hid kb2
  have XB2 := Lib.hid xb2
  have IB2 := Lib.hid ib2
  have a0 := kb2.cell 0
  have a1 := kb2.cell 1
  have a2 := kb2.cell 2
  have a3 := kb2.cell 3
  have b0 := xb2.cell 0
  have b1 := xb2.cell 1
  have b2 := xb2.cell 2
  have b3 := xb2.cell 3
  have hl1 := kb2.lt
  have hl2 := xb2.lt
  simp at a0 a1 a2 a3 b0 b1 b2 b3 hl1 hl2
  clear hb1 B1 i1 kb2 xb2 ib2
  go_wp2_with fail
  refine (HFit.out _ B2.out).mono ?_
  rintro e w2 ⟨rfl, hb2⟩
  have B3 := Lib.hid (B2.out.trans (hb2.mono B2.out.size))
  have kb3 := KB2.out.below hb2 KB2.out.lt
  have KB3 := Lib.hid kb3
  have XB3 := Lib.hid (XB2.out.below hb2 XB2.out.lt)
  have IB3 := Lib.hid (IB2.out.below hb2 IB2.out.lt)
  clear hb2 B2 KB2 XB2 IB2 a0 a1 a2 a3 b0 b1 b2 b3 hl1 hl2
  have a3 := kb3.cell 3
  have hl1 := kb3.lt
  simp at a3
  clear kb3
  have j3 := Has.new w2 23 [.int .u64 (c0 : Int), .int .u64 (vl : Int)]
  have J3 := Lib.hid (HJ2.out _ w2.heap.size (j3.cell 0) (j3.cell 1))
  clear j3
  go_wp2_with fail
  refine (J3.out).mono ?_
  rintro e w3 ⟨rfl, hw⟩
  have i3 := (Below.refl w2.heap.size w2).alloc (Nat.le_refl _) (.cells #[.int .u64 (c0 : Int), .int .u64 (vl : Int)] 23)
  rw [hw] at i3
  have B4 := Lib.hid (B3.out.trans (i3.mono B3.out.size))
  have KB4 := Lib.hid (KB3.out.below i3 KB3.out.lt)
  have xb4 := XB3.out.below i3 XB3.out.lt
  have XB4 := Lib.hid xb4
  have IB4 := Lib.hid (IB3.out.below i3 IB3.out.lt)
  have b0 := xb4.cell 0
  have b1 := xb4.cell 1
  have b2 := xb4.cell 2
  have b3 := xb4.cell 3
  have hl2 := xb4.lt
  simp at b0 b1 b2 b3
  clear hw i3 B3 KB3 XB3 IB3 J3 a3 hl1 xb4
  have j4 := Has.new w3 23 [.int .u64 ((c0 ||| vl : Nat) : Int)]
  have J4 := Lib.hid (HW.out (w3.alloc (.cells #[.int .u64 ((c0 ||| vl : Nat) : Int)] 23)) (.slice (some ⟨w3.heap.size, 0, none⟩) 1 1) (fun W hb => HJ1.out W w3.heap.size ((j4.below hb j4.lt).cell 0)))
  clear j4
  go_wp2_with fail
  refine (J4.out).mono ?_
  rintro e w5 ⟨rfl, hb5⟩
  have i4 := ((Below.refl w3.heap.size w3).alloc (Nat.le_refl _) (.cells #[.int .u64 ((c0 ||| vl : Nat) : Int)] 23)).trans (hb5.mono (by simp))
  have B5 := B4.out.trans (i4.mono B4.out.size)
  have kb5 := KB4.out.below i4 KB4.out.lt
  have xb5 := XB4.out.below i4 XB4.out.lt
  have ib5 := IB4.out.below i4 IB4.out.lt
  have hne : w1.heap.size ≠ w.heap.size + 1 := by omega
  have XB6 := Lib.hid (set4_self (x0 := .int .i64 xk) (x1 := .int .i64 xn) (x2 := .string xs) (x3 := .int .u64 ((xl ||| (c0 ||| vl) : Nat) : Int)) xb5)
  have KB6 := Lib.hid (set4_has (x0 := .int .i64 xk) (x1 := .int .i64 xn) (x2 := .string xs) (x3 := .int .u64 ((xl ||| (c0 ||| vl) : Nat) : Int)) kb5 (b := w.heap.size + 1) (by omega))
  have IB6 := Lib.hid (set4_has (x0 := .int .i64 xk) (x1 := .int .i64 xn) (x2 := .string xs) (x3 := .int .u64 ((xl ||| (c0 ||| vl) : Nat) : Int)) ib5 (b := w.heap.size + 1) hne)
  have B6 := Lib.hid (set4_below (x0 := .int .i64 xk) (x1 := .int .i64 xn) (x2 := .string xs) (x3 := .int .u64 ((xl ||| (c0 ||| vl) : Nat) : Int)) (b := w.heap.size + 1) B5 (by omega))
  have b0 := xb5.cell 0
  have b1 := xb5.cell 1
  have b2 := xb5.cell 2
  have b3 := xb5.cell 3
  have f0 := xb5.frozen 0
  have f1 := xb5.frozen 1
  have f2 := xb5.frozen 2
  have f3 := xb5.frozen 3
  have hl2 := xb5.lt
  simp at b0 b1 b2 b3
  clear hb5 i4 B5 kb5 xb5 ib5 B4 KB4 XB4 IB4 J4
  go_wp2
  clear b0 b1 b2 b3 f0 f1 f2 f3 hl2
  generalize World.setCell _ ⟨_, 3, none⟩ _ = W6 at XB6 KB6 IB6 B6 ⊢
  have t2 := (HT.out _ B6.out).1.cell 2
  have hlT := (HT.out _ B6.out).1.lt
  simp only [List.getElem?_cons_succ, List.getElem?_cons_zero] at t2
  have i0 := IB6.out.cell 0
  have i1 := IB6.out.cell 1
  have i2 := IB6.out.cell 2
  have hli := IB6.out.lt
  simp at i0 i1 i2
  have hlk := fun n => HL.out _ (below_drewN B6.out n)
  go_quiet (fail)
  have XB7 := Lib.hid (XB6.out.keepsT ((KeepsT.refl [] _).drewN nq) (by simp))
  have KB7 := Lib.hid (KB6.out.keepsT ((KeepsT.refl [] _).drewN nq) (by simp))
  have IB7 := Lib.hid (IB6.out.keepsT ((KeepsT.refl [] _).drewN nq) (by simp))
  have B7 := Lib.hid (below_drewN B6.out nq)
  generalize World.drewN _ nq = W7 at XB7 KB7 IB7 B7 ⊢
  clear XB6 KB6 IB6 B6 t2 hlT i0 i1 i2 hli hlk
  have t0 := (HT.out _ B7.out).1.cell 0
  have t2 := (HT.out _ B7.out).1.cell 2
  have ft2 := (HT.out _ B7.out).1.frozen 2
  have hlT := (HT.out _ B7.out).1.lt
  have hlab := HH.out.2.2.2.2.1
  simp only [List.getElem?_cons_zero, List.getElem?_cons_succ] at t0 t2
  have F7 := fun W => Lib.hid (HFl.out W lab hlab)
  rw [hfl] at F7
  clear hfl hlab
  have hmy := map_no b
  go_wp2_with fail
  refine ((F7 _).out).mono ?_
  rintro e w8 ⟨rfl, hw⟩
  subst hw
  go_wp2
  have IT7 := HT.out _ B7.out
  have hlT7 := IT7.1.lt
  have KB8 := KB7
  have XB8 := XB7
  have IB8 := IB7
  have HT8 := Lib.hid IT7
  have KP8 : Hid (KpC [66, 42] w W7) := Lib.hid (KpC.of (KeepsT.below B7.out []) (by simp))
  have KM8 : Hid (Keeps [T] w W7) := Lib.hid (Keeps.below' B7.out [T])
  have HB8 : Hid (Below B w W7) := Lib.hid (B7.out.mono hBw)
  have hpl := HPL.out
  clear IT7 t0 t2 ft2 hlT hlT7 hmy F7 KB7 XB7 IB7 HPL
  have hT8 := HT8.out.1
  have t1 := hT8.cell 1
  have t2 := hT8.cell 2
  have hlT := hT8.lt
  simp only [List.getElem?_cons_zero, List.getElem?_cons_succ] at t1 t2
  have ib8 := IB8.out
  have i0 := ib8.cell 0
  have i1 := ib8.cell 1
  have i2 := ib8.cell 2
  have hli := ib8.lt
  simp at i0 i1 i2
  obtain ⟨av1, cp1, hfv⟩ := own_slice HT8.out.2.1
  subst hfv
  obtain ⟨w9, hup, hP9, hm9⟩ := put_places (w := W7.drew) HT8.out.2.2.1 (by have := HT8.out.2.2.2.2.2.2; omega) ⟨3, vn, vs, vl⟩ HV.out hpl ⟨3, vn, vs, 0⟩ ⟨xk, xn, xs, xl ||| (c0 ||| vl)⟩ rfl
  simp only [kval] at hup
  have hg9 := hm9.grown
  have KP9 : KpC [66, 42] W7 w9 := KpC.turned (a := W7.drew) hm9
  have T9 := Lib.hid (KpC.turned (ts := []) hm9 _ _ _ (by simp) HT8.out.1.drew)
  have R9 := Lib.hid (own_kpc HT8.out.2.1 (KpC.turned (ts := []) (a := W7.drew) hm9) (by simp))
  have P9 := Lib.hid hP9
  have KB9 := KP9 _ _ _ (by simp) KB8.out
  have XB9 := KP9 _ _ _ (by simp) XB8.out
  have B9 : Below B W7 w9 := ((Below.refl B W7).drew).grown hg9 (by have := HB8.out.size; simp; omega) (fun g hg => by
    have : g = b := by simpa using hg.symm
    rw [this]
    exact HT8.out.2.2.1.1)
  have k3 := KB9.cell 3
  have kf3 := KB9.frozen 3
  have hlk9 := KB9.lt
  simp at k3
  have KB10 := Lib.hid (KB9.set 3 (.int .u64 0))
  have hneXK : w.heap.size + 1 ≠ w.heap.size := by omega
  have XB10 := Lib.hid (XB9.keeps (Keeps.set w9 w.heap.size 3 (.int .u64 0)) (by simp))
  have KP10 := Lib.hid ((KP8.out.trans KP9))
  have KM10 : Hid (Keeps [T, b] w (w9.setCell ⟨w.heap.size, 3, none⟩ (.int .u64 0))) := Lib.hid ((((KM8.out.mono (T := [T, b]) (by simp)).trans (Keeps.drew [] W7) (by simp)).trans (Keeps.grown hg9) (by simp)).trans (Keeps.set w9 w.heap.size 3 (.int .u64 0)) (by simp))
  have hTne : T ≠ w.heap.size := by have := HH.out.1.lt; omega
  have T10 := Lib.hid (T9.out.keeps (Keeps.set w9 w.heap.size 3 (.int .u64 0)) (by simpa using hTne))
  have R10 := Lib.hid (own_keeps R9.out (Keeps.set w9 w.heap.size 3 (.int .u64 0)) (fun g hg => by
    have := own_ne R9.out KB9 (by decide) g hg
    simpa using this))
  have P10 := Lib.hid (P9.out.below (w' := w9.setCell ⟨w.heap.size, 3, none⟩ (.int .u64 0)) (fun c hb => by
    have : b = c := by simpa using hb
    subst this
    exact Below.heap_setCell _ _ _ _ (P9.out.ne KB9)))
  have B10 := Lib.hid ((HB8.out.trans B9).setCell (p := ⟨w.heap.size, 3, none⟩) hBw (.int .u64 0))
  have S10 : B ≤ (w9.setCell ⟨w.heap.size, 3, none⟩ (.int .u64 0)).heap.size := by have h1 := HB8.out.size; have h2 := B9.size; simp [World.setCell]; omega
  have KPL := Lib.hid (show KpC [66, 42, 35] w9 (w9.setCell ⟨w.heap.size, 3, none⟩ (.int .u64 0)) from KpC.keeps (Keeps.set w9 w.heap.size 3 (.int .u64 0)) KB9 (by simp))
  have KOld := Lib.hid (show ∀ G t cs, G ≠ w.heap.size → Has w9 G t cs → Has (w9.setCell ⟨w.heap.size, 3, none⟩ (.int .u64 0)) G t cs from fun G t cs hne hh => hh.keeps (Keeps.set w9 w.heap.size 3 (.int .u64 0)) (by simpa using hne))
  have HL8 := HT8.out.2.2.2.2.2.2
  clear hT8 ib8 hP9 hm9 hg9 KP9 KB9 XB9 B9 T9 R9 P9
  refine wp_region_still_tail 10 (by kernel_rfl) (by kernel_rfl) ?_
  simp only [List.take_succ_cons, List.take_zero, List.drop_succ_cons, List.drop_zero]
  change wpStill _ _ (World.drew _) (fun a' => wpList _ _ _ _ a' (World.drew _)) _ _
  have hdc : ∀ p, W7.drew.cell? p = W7.cell? p := fun _ => rfl
  rw [← hdc] at t1 t2 i0 i1 i2
  have hds : W7.drew.heap.size = W7.heap.size := rfl
  rw [← hds] at hlT hli
  clear hdc hds
  generalize World.drew W7 = W7d at *
  repeat still_step
  refine wpStill_nil ?_
  go_wp2
  change Code.wp _ _ _ _ (World.setCell w9 _ _)
  generalize World.setCell w9 _ _ = W10 at KB10 XB10 T10 R10 P10 B10 S10 KPL KOld KM10 ⊢
  obtain ⟨g', cap', w11, hrun, a0, a1, a2, hT11, hO11, hP11, hk11, ⟨hkp11, hg11⟩, hb11⟩ := app_T B T fs ⟨3, vn, vs, 0⟩ ⟨xk, xn, xs, xl ||| (c0 ||| vl)⟩ _ _ _ _ _ (some b) _ HL8 W10 S10 T10.out R10.out P10.out HH.out.2.2.2.1
  simp only [fcells, V.cells, List.cons_append, List.nil_append] at hrun
  have c0' := T10.out.cell 1
  simp only [List.getElem?_cons_zero, List.getElem?_cons_succ] at c0'
  have e0 := KB10.out.cell 0
  have e1 := KB10.out.cell 1
  have e2 := KB10.out.cell 2
  have e3 := KB10.out.cell 3
  simp at e0 e1 e2 e3
  have hle := KB10.out.lt
  have d0 := XB10.out.cell 0
  have d1 := XB10.out.cell 1
  have d2 := XB10.out.cell 2
  have d3 := XB10.out.cell 3
  simp at d0 d1 d2 d3
  have hld := XB10.out.lt
  have hlT10 := T10.out.lt
  have HEnd : Hid (PutDid w B T lab (fs ++ [(⟨3, vn, vs, 0⟩, ⟨xk, xn, xs, xl ||| (c0 ||| vl)⟩)]) (.slice av1 fs.length cp1) (some b) sv nm (.returned (.int .i64 0)) (w11.setCell ⟨T, 1, none⟩ (.slice (some ⟨g', 0, none⟩) (fs.length + 1) cap'))) := Lib.hid (by
    refine ⟨rfl, _, some b, ⟨hT11, hO11, hP11, HH.out.2.2.2.1, HH.out.2.2.2.2.1, fun f hf => ?_, by rw [List.length_append]; simp; omega⟩, ?_, ⟨tblk_keeps KM10.out (by simp) hkp11, tblk_fresh KM10.out.size hg11 (fun c hc => .inl hc)⟩, B10.out.trans hb11⟩
    · rcases List.mem_append.1 hf with h9 | h9
      · exact HH.out.2.2.2.2.2.1 f h9
      · have : f = (⟨3, vn, vs, 0⟩, ⟨xk, xn, xs, xl ||| (c0 ||| vl)⟩) := by simpa using h9
        subst this
        exact ⟨⟨HV.out.1, HV.out.2.1, HV.out.2.2.1, (by decide : (0 : Nat) < M64)⟩, ⟨HX.out.1, HX.out.2.1, HX.out.2.2.1, or_lt HX.out.2.2.2 (or_lt hc0 HV.out.2.2.2)⟩⟩
    · exact fun G t cs ht hh => hk11 G t cs ht (KOld.out G t cs (Nat.ne_of_lt hh.lt) (KP10.out G t cs ht hh)))
  clear hT11 hO11 hP11 hk11 hb11 KB10 XB10 T10 R10 P10 B10 KPL KOld KP10 KM10 hkp11 hg11 hup t1 t2 i0 i1 i2 hlT hli k3 kf3 hlk9
  go_region_law (refine step_append_own rfl (.tmp 107) (.tmp 111) 30 rfl _ _ _ _ rfl rfl hrun ?_)
  all_goals
    clear hrun
    go_wp2
    go_ret
    exact HEnd.out
set_option maxRecDepth 100000 in
set_option maxHeartbeats 4000000 in
theorem put_new_more2 (B T lab : Nat) (fs : List Fd) (fv sv nm : Value) (pm : Option Nat) (c0 : Nat) (hc0 : c0 < M64) (key x : V) (hv : VOk key) (hx : VOk x) (hk : keyB key = true) (hkind : key.k = 2) (w : World) (h : IsT w B T lab fs fv pm sv nm)
    (hBw : B ≤ w.heap.size) (b : Nat) (hpm : pm = some b) (hpl : placeOf fs key = none) (hlen : fs.length < 1000000) (hfl : flowsB (c0 ||| key.l) lab = true) : Calls Try.prog 15 #[.pointer (some ⟨T, 0, none⟩), .int .u64 (c0 : Int), key.agg, x.agg] w (PutDid w B T lab (fs ++ [({ key with l := 0 }, x.with (c0 ||| key.l))]) fv pm sv nm) := by
  subst hpm
  have hp1 : placeI fs key = 0 := by unfold placeI; rw [hpl]
  have hp2 : placeB fs key = false := by unfold placeB; rw [hpl]; rfl
  have HPL := Lib.hid hpl
  clear hpl
  have HK := fun W => Lib.hid (keyOf_any key W)
  unfold KeyIs at HK
  rw [hk] at HK
  have HT := Lib.hid (fun (W : World) (hb : Below w.heap.size w W) => h.below hb)
  have HL := Lib.hid (fun (W : World) (hb : Below w.heap.size w W) => look_places (h.below hb).2.2.1 key hv)
  have HW := Lib.hid (fun (W : World) (lv : Value) hj => with_any x lv (c0 ||| key.l) hx.2.2.2 (or_lt hc0 hv.2.2.2) W hj)
  have HJ2 := Lib.hid (fun (W : World) (n : Nat) h0 h1 => join2c c0 key.l hc0 hv.2.2.2 W n h0 h1)
  have HJ1 := Lib.hid (fun (W : World) (n : Nat) hc => join1_any (c0 ||| key.l) (or_lt hc0 hv.2.2.2) W n hc)
  have HFl := Lib.hid (fun (W : World) (y : Nat) (hy : y < M64) => flows_any (c0 ||| key.l) y (or_lt hc0 hv.2.2.2) hy W)
  have HV := Lib.hid hv
  have HX := Lib.hid hx
  have HH := Lib.hid h
  rw [hp1, hp2] at HL
  clear hk h hp1 hp2
  obtain ⟨vk, vn, vs, vl⟩ := key
  obtain ⟨xk, xn, xs, xl⟩ := x
  simp only [V.agg, V.with, kval] at HK HL HW HJ2 HJ1 HFl ⊢
  simp only at hkind
  subst hkind
  have HA := Lib.hid (((Below.refl w.heap.size w).alloc (Nat.le_refl _) (.cells #[.int .i64 2, .int .i64 vn, .string vs, .int .u64 (vl : Int)] 35)).alloc (by simp) (.cells #[.int .i64 xk, .int .i64 xn, .string xs, .int .u64 (xl : Int)] 35))
  have HKb := Lib.hid ((Has.new w 35 [.int .i64 2, .int .i64 vn, .string vs, .int .u64 (vl : Int)]).below ((Below.refl (w.heap.size + 1) (w.alloc (.cells #[.int .i64 2, .int .i64 vn, .string vs, .int .u64 (vl : Int)] 35))).alloc (by simp) (.cells #[.int .i64 xk, .int .i64 xn, .string xs, .int .u64 (xl : Int)] 35)) (by omega))
  have hXb := Has.new (w.alloc (.cells #[.int .i64 2, .int .i64 vn, .string vs, .int .u64 (vl : Int)] 35)) 35 [.int .i64 xk, .int .i64 xn, .string xs, .int .u64 (xl : Int)]
  simp only [World.size_alloc] at hXb
  have HXb := Lib.hid hXb
  clear hXb
  go_enter Try.func15, Try.ntmps15
  go_wp2_with fail
  refine ((HK _).out).mono ?_
  rintro e w1 ⟨rfl, hb1⟩
  have B1 := HA.out.trans (hb1.mono (by simp; omega))
  have i1 := (Below.refl w1.heap.size w1).alloc (Nat.le_refl _) (.cells #[.int .i64 2, .int .i64 vn, .string vs] 76)
  have kb2 := (HKb.out.below hb1 HKb.out.lt).below i1 (HKb.out.below hb1 HKb.out.lt).lt
  have xb2 := (HXb.out.below hb1 HXb.out.lt).below i1 (HXb.out.below hb1 HXb.out.lt).lt
  have ib2 := Has.new w1 76 [.int .i64 2, .int .i64 vn, .string vs]
  have hlw : w.heap.size + 1 < w1.heap.size := (HXb.out.below hb1 HXb.out.lt).lt
  have B2 := Lib.hid (B1.trans (i1.mono B1.size))
  have KB2 := Lib.hid kb2
  have XB2 := Lib.hid xb2
  have IB2 := Lib.hid ib2
  obtain ⟨w2, hw2⟩ : ∃ W, w1.alloc (.cells #[.int .i64 2, .int .i64 vn, .string vs] 76) = W := ⟨_, rfl⟩
  have b2' : Below w.heap.size w w2 := by rw [← hw2]; exact B2.out
  have k2' : Has w2 w.heap.size 35 [.int .i64 2, .int .i64 vn, .string vs, .int .u64 (vl : Int)] := by rw [← hw2]; exact KB2.out
  have x2' : Has w2 (w.heap.size + 1) 35 [.int .i64 xk, .int .i64 xn, .string xs, .int .u64 (xl : Int)] := by rw [← hw2]; exact XB2.out
  have i2' : Has w2 w1.heap.size 76 [.int .i64 2, .int .i64 vn, .string vs] := by rw [← hw2]; exact IB2.out
  have B3 := Lib.hid b2'
  have KB3 := Lib.hid k2'
  have XB3 := Lib.hid x2'
  have IB3 := Lib.hid i2'
  have kb3 := k2'
  have a0 := kb3.cell 0
  simp at a0
  clear hb1 B1 i1 kb2 xb2 ib2 B2 KB2 XB2 IB2 b2' k2' x2' i2'
  have a3 := kb3.cell 3
  have hl1 := kb3.lt
  simp at a3
  clear kb3
  have j3 := Has.new w2 23 [.int .u64 (c0 : Int), .int .u64 (vl : Int)]
  have J3 := Lib.hid (HJ2.out _ w2.heap.size (j3.cell 0) (j3.cell 1))
  clear j3
  go_wp2_with fail
  refine (J3.out).mono ?_
  rintro e w3 ⟨rfl, hw⟩
  have i3 := (Below.refl w2.heap.size w2).alloc (Nat.le_refl _) (.cells #[.int .u64 (c0 : Int), .int .u64 (vl : Int)] 23)
  rw [hw] at i3
  have B4 := Lib.hid (B3.out.trans (i3.mono B3.out.size))
  have KB4 := Lib.hid (KB3.out.below i3 KB3.out.lt)
  have xb4 := XB3.out.below i3 XB3.out.lt
  have XB4 := Lib.hid xb4
  have IB4 := Lib.hid (IB3.out.below i3 IB3.out.lt)
  have b0 := xb4.cell 0
  have b1 := xb4.cell 1
  have b2 := xb4.cell 2
  have b3 := xb4.cell 3
  have hl2 := xb4.lt
  simp at b0 b1 b2 b3
  clear hw i3 B3 KB3 XB3 IB3 J3 a3 hl1 xb4
  have j4 := Has.new w3 23 [.int .u64 ((c0 ||| vl : Nat) : Int)]
  have J4 := Lib.hid (HW.out (w3.alloc (.cells #[.int .u64 ((c0 ||| vl : Nat) : Int)] 23)) (.slice (some ⟨w3.heap.size, 0, none⟩) 1 1) (fun W hb => HJ1.out W w3.heap.size ((j4.below hb j4.lt).cell 0)))
  clear j4
  go_wp2_with fail
  refine (J4.out).mono ?_
  rintro e w5 ⟨rfl, hb5⟩
  have i4 := ((Below.refl w3.heap.size w3).alloc (Nat.le_refl _) (.cells #[.int .u64 ((c0 ||| vl : Nat) : Int)] 23)).trans (hb5.mono (by simp))
  have B5 := B4.out.trans (i4.mono B4.out.size)
  have kb5 := KB4.out.below i4 KB4.out.lt
  have xb5 := XB4.out.below i4 XB4.out.lt
  have ib5 := IB4.out.below i4 IB4.out.lt
  have hne : w1.heap.size ≠ w.heap.size + 1 := by omega
  have XB6 := Lib.hid (set4_self (x0 := .int .i64 xk) (x1 := .int .i64 xn) (x2 := .string xs) (x3 := .int .u64 ((xl ||| (c0 ||| vl) : Nat) : Int)) xb5)
  have KB6 := Lib.hid (set4_has (x0 := .int .i64 xk) (x1 := .int .i64 xn) (x2 := .string xs) (x3 := .int .u64 ((xl ||| (c0 ||| vl) : Nat) : Int)) kb5 (b := w.heap.size + 1) (by omega))
  have IB6 := Lib.hid (set4_has (x0 := .int .i64 xk) (x1 := .int .i64 xn) (x2 := .string xs) (x3 := .int .u64 ((xl ||| (c0 ||| vl) : Nat) : Int)) ib5 (b := w.heap.size + 1) hne)
  have B6 := Lib.hid (set4_below (x0 := .int .i64 xk) (x1 := .int .i64 xn) (x2 := .string xs) (x3 := .int .u64 ((xl ||| (c0 ||| vl) : Nat) : Int)) (b := w.heap.size + 1) B5 (by omega))
  have b0 := xb5.cell 0
  have b1 := xb5.cell 1
  have b2 := xb5.cell 2
  have b3 := xb5.cell 3
  have f0 := xb5.frozen 0
  have f1 := xb5.frozen 1
  have f2 := xb5.frozen 2
  have f3 := xb5.frozen 3
  have hl2 := xb5.lt
  simp at b0 b1 b2 b3
  clear hb5 i4 B5 kb5 xb5 ib5 B4 KB4 XB4 IB4 J4
  go_wp2
  clear b0 b1 b2 b3 f0 f1 f2 f3 hl2
  generalize World.setCell _ ⟨_, 3, none⟩ _ = W6 at XB6 KB6 IB6 B6 ⊢
  have t2 := (HT.out _ B6.out).1.cell 2
  have hlT := (HT.out _ B6.out).1.lt
  simp only [List.getElem?_cons_succ, List.getElem?_cons_zero] at t2
  have i0 := IB6.out.cell 0
  have i1 := IB6.out.cell 1
  have i2 := IB6.out.cell 2
  have hli := IB6.out.lt
  simp at i0 i1 i2
  have hlk := fun n => HL.out _ (below_drewN B6.out n)
  go_quiet (fail)
  have XB7 := Lib.hid (XB6.out.keepsT ((KeepsT.refl [] _).drewN nq) (by simp))
  have KB7 := Lib.hid (KB6.out.keepsT ((KeepsT.refl [] _).drewN nq) (by simp))
  have IB7 := Lib.hid (IB6.out.keepsT ((KeepsT.refl [] _).drewN nq) (by simp))
  have B7 := Lib.hid (below_drewN B6.out nq)
  generalize World.drewN _ nq = W7 at XB7 KB7 IB7 B7 ⊢
  clear XB6 KB6 IB6 B6 t2 hlT i0 i1 i2 hli hlk
  have t0 := (HT.out _ B7.out).1.cell 0
  have t2 := (HT.out _ B7.out).1.cell 2
  have ft2 := (HT.out _ B7.out).1.frozen 2
  have hlT := (HT.out _ B7.out).1.lt
  have hlab := HH.out.2.2.2.2.1
  simp only [List.getElem?_cons_zero, List.getElem?_cons_succ] at t0 t2
  have F7 := fun W => Lib.hid (HFl.out W lab hlab)
  rw [hfl] at F7
  clear hfl hlab
  have hmy := map_no b
  go_wp2_with fail
  refine ((F7 _).out).mono ?_
  rintro e w8 ⟨rfl, hw⟩
  subst hw
  go_wp2
  have IT7 := HT.out _ B7.out
  have hlT7 := IT7.1.lt
  have KB8 := KB7
  have XB8 := XB7
  have IB8 := IB7
  have HT8 := Lib.hid IT7
  have KP8 : Hid (KpC [66, 42] w W7) := Lib.hid (KpC.of (KeepsT.below B7.out []) (by simp))
  have KM8 : Hid (Keeps [T] w W7) := Lib.hid (Keeps.below' B7.out [T])
  have HB8 : Hid (Below B w W7) := Lib.hid (B7.out.mono hBw)
  have hpl := HPL.out
  clear IT7 t0 t2 ft2 hlT hlT7 hmy F7 KB7 XB7 IB7 HPL
  have hT8 := HT8.out.1
  have t1 := hT8.cell 1
  have t2 := hT8.cell 2
  have hlT := hT8.lt
  simp only [List.getElem?_cons_zero, List.getElem?_cons_succ] at t1 t2
  have ib8 := IB8.out
  have i0 := ib8.cell 0
  have i1 := ib8.cell 1
  have i2 := ib8.cell 2
  have hli := ib8.lt
  simp at i0 i1 i2
  obtain ⟨av1, cp1, hfv⟩ := own_slice HT8.out.2.1
  subst hfv
  obtain ⟨w9, hup, hP9, hm9⟩ := put_places (w := W7.drew) HT8.out.2.2.1 (by have := HT8.out.2.2.2.2.2.2; omega) ⟨2, vn, vs, vl⟩ HV.out hpl ⟨2, vn, vs, 0⟩ ⟨xk, xn, xs, xl ||| (c0 ||| vl)⟩ rfl
  simp only [kval] at hup
  have hg9 := hm9.grown
  have KP9 : KpC [66, 42] W7 w9 := KpC.turned (a := W7.drew) hm9
  have T9 := Lib.hid (KpC.turned (ts := []) hm9 _ _ _ (by simp) HT8.out.1.drew)
  have R9 := Lib.hid (own_kpc HT8.out.2.1 (KpC.turned (ts := []) (a := W7.drew) hm9) (by simp))
  have P9 := Lib.hid hP9
  have KB9 := KP9 _ _ _ (by simp) KB8.out
  have XB9 := KP9 _ _ _ (by simp) XB8.out
  have B9 : Below B W7 w9 := ((Below.refl B W7).drew).grown hg9 (by have := HB8.out.size; simp; omega) (fun g hg => by
    have : g = b := by simpa using hg.symm
    rw [this]
    exact HT8.out.2.2.1.1)
  have k3 := KB9.cell 3
  have kf3 := KB9.frozen 3
  have hlk9 := KB9.lt
  simp at k3
  have KB10 := Lib.hid (KB9.set 3 (.int .u64 0))
  have hneXK : w.heap.size + 1 ≠ w.heap.size := by omega
  have XB10 := Lib.hid (XB9.keeps (Keeps.set w9 w.heap.size 3 (.int .u64 0)) (by simp))
  have KP10 := Lib.hid ((KP8.out.trans KP9))
  have KM10 : Hid (Keeps [T, b] w (w9.setCell ⟨w.heap.size, 3, none⟩ (.int .u64 0))) := Lib.hid ((((KM8.out.mono (T := [T, b]) (by simp)).trans (Keeps.drew [] W7) (by simp)).trans (Keeps.grown hg9) (by simp)).trans (Keeps.set w9 w.heap.size 3 (.int .u64 0)) (by simp))
  have hTne : T ≠ w.heap.size := by have := HH.out.1.lt; omega
  have T10 := Lib.hid (T9.out.keeps (Keeps.set w9 w.heap.size 3 (.int .u64 0)) (by simpa using hTne))
  have R10 := Lib.hid (own_keeps R9.out (Keeps.set w9 w.heap.size 3 (.int .u64 0)) (fun g hg => by
    have := own_ne R9.out KB9 (by decide) g hg
    simpa using this))
  have P10 := Lib.hid (P9.out.below (w' := w9.setCell ⟨w.heap.size, 3, none⟩ (.int .u64 0)) (fun c hb => by
    have : b = c := by simpa using hb
    subst this
    exact Below.heap_setCell _ _ _ _ (P9.out.ne KB9)))
  have B10 := Lib.hid ((HB8.out.trans B9).setCell (p := ⟨w.heap.size, 3, none⟩) hBw (.int .u64 0))
  have S10 : B ≤ (w9.setCell ⟨w.heap.size, 3, none⟩ (.int .u64 0)).heap.size := by have h1 := HB8.out.size; have h2 := B9.size; simp [World.setCell]; omega
  have KPL := Lib.hid (show KpC [66, 42, 35] w9 (w9.setCell ⟨w.heap.size, 3, none⟩ (.int .u64 0)) from KpC.keeps (Keeps.set w9 w.heap.size 3 (.int .u64 0)) KB9 (by simp))
  have KOld := Lib.hid (show ∀ G t cs, G ≠ w.heap.size → Has w9 G t cs → Has (w9.setCell ⟨w.heap.size, 3, none⟩ (.int .u64 0)) G t cs from fun G t cs hne hh => hh.keeps (Keeps.set w9 w.heap.size 3 (.int .u64 0)) (by simpa using hne))
  have HL8 := HT8.out.2.2.2.2.2.2
  clear hT8 ib8 hP9 hm9 hg9 KP9 KB9 XB9 B9 T9 R9 P9
  refine wp_region_still_tail 10 (by kernel_rfl) (by kernel_rfl) ?_
  simp only [List.take_succ_cons, List.take_zero, List.drop_succ_cons, List.drop_zero]
  change wpStill _ _ (World.drew _) (fun a' => wpList _ _ _ _ a' (World.drew _)) _ _
  have hdc : ∀ p, W7.drew.cell? p = W7.cell? p := fun _ => rfl
  rw [← hdc] at t1 t2 i0 i1 i2
  have hds : W7.drew.heap.size = W7.heap.size := rfl
  rw [← hds] at hlT hli
  clear hdc hds
  generalize World.drew W7 = W7d at *
  repeat still_step
  refine wpStill_nil ?_
  go_wp2
  change Code.wp _ _ _ _ (World.setCell w9 _ _)
  generalize World.setCell w9 _ _ = W10 at KB10 XB10 T10 R10 P10 B10 S10 KPL KOld KM10 ⊢
  obtain ⟨g', cap', w11, hrun, a0, a1, a2, hT11, hO11, hP11, hk11, ⟨hkp11, hg11⟩, hb11⟩ := app_T B T fs ⟨2, vn, vs, 0⟩ ⟨xk, xn, xs, xl ||| (c0 ||| vl)⟩ _ _ _ _ _ (some b) _ HL8 W10 S10 T10.out R10.out P10.out HH.out.2.2.2.1
  simp only [fcells, V.cells, List.cons_append, List.nil_append] at hrun
  have c0' := T10.out.cell 1
  simp only [List.getElem?_cons_zero, List.getElem?_cons_succ] at c0'
  have e0 := KB10.out.cell 0
  have e1 := KB10.out.cell 1
  have e2 := KB10.out.cell 2
  have e3 := KB10.out.cell 3
  simp at e0 e1 e2 e3
  have hle := KB10.out.lt
  have d0 := XB10.out.cell 0
  have d1 := XB10.out.cell 1
  have d2 := XB10.out.cell 2
  have d3 := XB10.out.cell 3
  simp at d0 d1 d2 d3
  have hld := XB10.out.lt
  have hlT10 := T10.out.lt
  have HEnd : Hid (PutDid w B T lab (fs ++ [(⟨2, vn, vs, 0⟩, ⟨xk, xn, xs, xl ||| (c0 ||| vl)⟩)]) (.slice av1 fs.length cp1) (some b) sv nm (.returned (.int .i64 0)) (w11.setCell ⟨T, 1, none⟩ (.slice (some ⟨g', 0, none⟩) (fs.length + 1) cap'))) := Lib.hid (by
    refine ⟨rfl, _, some b, ⟨hT11, hO11, hP11, HH.out.2.2.2.1, HH.out.2.2.2.2.1, fun f hf => ?_, by rw [List.length_append]; simp; omega⟩, ?_, ⟨tblk_keeps KM10.out (by simp) hkp11, tblk_fresh KM10.out.size hg11 (fun c hc => .inl hc)⟩, B10.out.trans hb11⟩
    · rcases List.mem_append.1 hf with h9 | h9
      · exact HH.out.2.2.2.2.2.1 f h9
      · have : f = (⟨2, vn, vs, 0⟩, ⟨xk, xn, xs, xl ||| (c0 ||| vl)⟩) := by simpa using h9
        subst this
        exact ⟨⟨HV.out.1, HV.out.2.1, HV.out.2.2.1, (by decide : (0 : Nat) < M64)⟩, ⟨HX.out.1, HX.out.2.1, HX.out.2.2.1, or_lt HX.out.2.2.2 (or_lt hc0 HV.out.2.2.2)⟩⟩
    · exact fun G t cs ht hh => hk11 G t cs ht (KOld.out G t cs (Nat.ne_of_lt hh.lt) (KP10.out G t cs ht hh)))
  clear hT11 hO11 hP11 hk11 hb11 KB10 XB10 T10 R10 P10 B10 KPL KOld KP10 KM10 hkp11 hg11 hup t1 t2 i0 i1 i2 hlT hli k3 kf3 hlk9
  go_region_law (refine step_append_own rfl (.tmp 107) (.tmp 111) 30 rfl _ _ _ _ rfl rfl hrun ?_)
  all_goals
    clear hrun
    go_wp2
    go_ret
    exact HEnd.out
end TabD
end Go.Proofs.Ytpmbbkhhnkhcbaa
