/- Putting into a field that is there. -/
import Derived.Test.YtpmbbkhhnkhcbaaTab4
namespace Go.Proofs.Ytpmbbkhhnkhcbaa
open Go.RowKit ObjM Go.Maps
namespace TabD
open LabelM LabelD ValD

set_option maxRecDepth 100000 in
set_option maxHeartbeats 4000000 in
theorem put_found_no (B T lab : Nat) (fs : List Fd) (fv sv nm : Value) (pm : Option Nat) (c0 : Nat) (hc0 : c0 < M64) (key x : V) (hv : VOk key) (hx : VOk x) (hk : keyB key = true) (hkind : key.k = 3) (w : World) (h : IsT w B T lab fs fv pm sv nm)
    (hfit : ∀ W, Below w.heap.size w W → Calls Try.prog 34 #[.pointer (some ⟨T, 0, none⟩), .string key.s, .int .i64 x.k] W fun e w' => e = .returned (.bool true) ∧ Below W.heap.size W w') (i : Nat) (hpl : placeOf fs key = some i) (hfl : ∀ f, fs[i]? = some f → flowsB (c0 ||| key.l) f.2.l = false) : Calls Try.prog 15 #[.pointer (some ⟨T, 0, none⟩), .int .u64 (c0 : Int), key.agg, x.agg] w (PutOut w 40) := by
  have HFit := Lib.hid hfit
  clear hfit
  obtain ⟨ff, hff, hsf⟩ := placeOf_some hpl
  have hp1 : placeI fs key = i := by unfold placeI; rw [hpl]
  have hp2 : placeB fs key = true := by unfold placeB; rw [hpl]; rfl
  have hfl' : flowsB (c0 ||| key.l) ff.2.l = false := hfl ff hff
  have hvf := (h.2.2.2.2.2.1 ff (List.mem_of_getElem? hff)).2.2.2.2
  have hrow : ∀ j, j < 8 → ∀ u, (fcells ff.1 ff.2)[j]? = some u → (rowF fs)[i * 8 + j]? = some u := fun j hj u hu => by rw [rowF_at fs i ff hff j hj]; exact hu
  have HRow := Lib.hid hrow
  have hi : i < fs.length := (List.getElem?_eq_some_iff.1 hff).1
  have HFF := Lib.hid hff
  obtain ⟨lbl, hlbl⟩ : ∃ l, ff.2.l = l := ⟨_, rfl⟩
  rw [hlbl] at hfl' hvf
  have HLBL := Lib.hid hlbl
  clear hsf hrow hff hlbl hfl
  have HK := fun W => Lib.hid (keyOf_any key W)
  unfold KeyIs at HK
  rw [hk] at HK
  have HT := Lib.hid (fun (W : World) (hb : Below w.heap.size w W) => h.below hb)
  have HL := Lib.hid (fun (W : World) (hb : Below w.heap.size w W) => look_places (h.below hb).2.2.1 key hv)
  have HW := Lib.hid (fun (W : World) (lv : Value) hj => with_any x lv (c0 ||| key.l) hx.2.2.2 (or_lt hc0 hv.2.2.2) W hj)
  have HJ2 := Lib.hid (fun (W : World) (n : Nat) h0 h1 => join2c c0 key.l hc0 hv.2.2.2 W n h0 h1)
  have HJ1 := Lib.hid (fun (W : World) (n : Nat) hc => join1_any (c0 ||| key.l) (or_lt hc0 hv.2.2.2) W n hc)
  have HFl := Lib.hid (fun (W : World) (y : Nat) (hy : y < M64) => flows_any (c0 ||| key.l) y (or_lt hc0 hv.2.2.2) hy W)
  have HV := Lib.hid hv
  have HX := Lib.hid hx
  have HH := Lib.hid h
  rw [hp1, hp2] at HL
  clear hk h hp1 hp2
  obtain ⟨vk, vn, vs, vl⟩ := key
  obtain ⟨xk, xn, xs, xl⟩ := x
  simp only [V.agg, V.with, kval] at HK HL HW HJ2 HJ1 HFl ⊢
  simp only at hkind
  subst hkind
  have HA := Lib.hid (((Below.refl w.heap.size w).alloc (Nat.le_refl _) (.cells #[.int .i64 3, .int .i64 vn, .string vs, .int .u64 (vl : Int)] 35)).alloc (by simp) (.cells #[.int .i64 xk, .int .i64 xn, .string xs, .int .u64 (xl : Int)] 35))
  have HKb := Lib.hid ((Has.new w 35 [.int .i64 3, .int .i64 vn, .string vs, .int .u64 (vl : Int)]).below ((Below.refl (w.heap.size + 1) (w.alloc (.cells #[.int .i64 3, .int .i64 vn, .string vs, .int .u64 (vl : Int)] 35))).alloc (by simp) (.cells #[.int .i64 xk, .int .i64 xn, .string xs, .int .u64 (xl : Int)] 35)) (by omega))
  have hXb := Has.new (w.alloc (.cells #[.int .i64 3, .int .i64 vn, .string vs, .int .u64 (vl : Int)] 35)) 35 [.int .i64 xk, .int .i64 xn, .string xs, .int .u64 (xl : Int)]
  simp only [World.size_alloc] at hXb
  have HXb := Lib.hid hXb
  clear hXb
  go_enter Try.func15, Try.ntmps15
  go_wp2_with fail
  refine ((HK _).out).mono ?_
  rintro e w1 ⟨rfl, hb1⟩
  have B1 := HA.out.trans (hb1.mono (by simp; omega))
  have i1 := (Below.refl w1.heap.size w1).alloc (Nat.le_refl _) (.cells #[.int .i64 3, .int .i64 vn, .string vs] 76)
  have kb2 := (HKb.out.below hb1 HKb.out.lt).below i1 (HKb.out.below hb1 HKb.out.lt).lt
  have xb2 := (HXb.out.below hb1 HXb.out.lt).below i1 (HXb.out.below hb1 HXb.out.lt).lt
  have ib2 := Has.new w1 76 [.int .i64 3, .int .i64 vn, .string vs]
  have hlw : w.heap.size + 1 < w1.heap.size := (HXb.out.below hb1 HXb.out.lt).lt
  have B2 := Lib.hid (B1.trans (i1.mono B1.size))
  have KB2 := Lib.hid kb2
  have XB2 := Lib.hid xb2
  have IB2 := Lib.hid ib2
  have a0 := kb2.cell 0
  have a1 := kb2.cell 1
  have a2 := kb2.cell 2
  have a3 := kb2.cell 3
  have b0 := xb2.cell 0
  have b1 := xb2.cell 1
  have b2 := xb2.cell 2
  have b3 := xb2.cell 3
  have hl1 := kb2.lt
  have hl2 := xb2.lt
  simp at a0 a1 a2 a3 b0 b1 b2 b3 hl1 hl2
  clear hb1 B1 i1 kb2 xb2 ib2
  go_wp2_with fail
  refine (HFit.out _ B2.out).mono ?_
  rintro e w2 ⟨rfl, hb2⟩
  have B3 := Lib.hid (B2.out.trans (hb2.mono B2.out.size))
  have kb3 := KB2.out.below hb2 KB2.out.lt
  have KB3 := Lib.hid kb3
  have XB3 := Lib.hid (XB2.out.below hb2 XB2.out.lt)
  have IB3 := Lib.hid (IB2.out.below hb2 IB2.out.lt)
  clear hb2 B2 KB2 XB2 IB2 a0 a1 a2 a3 b0 b1 b2 b3 hl1 hl2
  have a3 := kb3.cell 3
  have hl1 := kb3.lt
  simp at a3
  clear kb3
  have j3 := Has.new w2 23 [.int .u64 (c0 : Int), .int .u64 (vl : Int)]
  have J3 := Lib.hid (HJ2.out _ w2.heap.size (j3.cell 0) (j3.cell 1))
  clear j3
  go_wp2_with fail
  refine (J3.out).mono ?_
  rintro e w3 ⟨rfl, hw⟩
  have i3 := (Below.refl w2.heap.size w2).alloc (Nat.le_refl _) (.cells #[.int .u64 (c0 : Int), .int .u64 (vl : Int)] 23)
  rw [hw] at i3
  have B4 := Lib.hid (B3.out.trans (i3.mono B3.out.size))
  have KB4 := Lib.hid (KB3.out.below i3 KB3.out.lt)
  have xb4 := XB3.out.below i3 XB3.out.lt
  have XB4 := Lib.hid xb4
  have IB4 := Lib.hid (IB3.out.below i3 IB3.out.lt)
  have b0 := xb4.cell 0
  have b1 := xb4.cell 1
  have b2 := xb4.cell 2
  have b3 := xb4.cell 3
  have hl2 := xb4.lt
  simp at b0 b1 b2 b3
  clear hw i3 B3 KB3 XB3 IB3 J3 a3 hl1 xb4
  have j4 := Has.new w3 23 [.int .u64 ((c0 ||| vl : Nat) : Int)]
  have J4 := Lib.hid (HW.out (w3.alloc (.cells #[.int .u64 ((c0 ||| vl : Nat) : Int)] 23)) (.slice (some ⟨w3.heap.size, 0, none⟩) 1 1) (fun W hb => HJ1.out W w3.heap.size ((j4.below hb j4.lt).cell 0)))
  clear j4
  go_wp2_with fail
  refine (J4.out).mono ?_
  rintro e w5 ⟨rfl, hb5⟩
  have i4 := ((Below.refl w3.heap.size w3).alloc (Nat.le_refl _) (.cells #[.int .u64 ((c0 ||| vl : Nat) : Int)] 23)).trans (hb5.mono (by simp))
  have B5 := B4.out.trans (i4.mono B4.out.size)
  have kb5 := KB4.out.below i4 KB4.out.lt
  have xb5 := XB4.out.below i4 XB4.out.lt
  have ib5 := IB4.out.below i4 IB4.out.lt
  have hne : w1.heap.size ≠ w.heap.size + 1 := by omega
  have XB6 := Lib.hid (set4_self (x0 := .int .i64 xk) (x1 := .int .i64 xn) (x2 := .string xs) (x3 := .int .u64 ((xl ||| (c0 ||| vl) : Nat) : Int)) xb5)
  have KB6 := Lib.hid (set4_has (x0 := .int .i64 xk) (x1 := .int .i64 xn) (x2 := .string xs) (x3 := .int .u64 ((xl ||| (c0 ||| vl) : Nat) : Int)) kb5 (b := w.heap.size + 1) (by omega))
  have IB6 := Lib.hid (set4_has (x0 := .int .i64 xk) (x1 := .int .i64 xn) (x2 := .string xs) (x3 := .int .u64 ((xl ||| (c0 ||| vl) : Nat) : Int)) ib5 (b := w.heap.size + 1) hne)
  have B6 := Lib.hid (set4_below (x0 := .int .i64 xk) (x1 := .int .i64 xn) (x2 := .string xs) (x3 := .int .u64 ((xl ||| (c0 ||| vl) : Nat) : Int)) (b := w.heap.size + 1) B5 (by omega))
  have b0 := xb5.cell 0
  have b1 := xb5.cell 1
  have b2 := xb5.cell 2
  have b3 := xb5.cell 3
  have f0 := xb5.frozen 0
  have f1 := xb5.frozen 1
  have f2 := xb5.frozen 2
  have f3 := xb5.frozen 3
  have hl2 := xb5.lt
  simp at b0 b1 b2 b3
  clear hb5 i4 B5 kb5 xb5 ib5 B4 KB4 XB4 IB4 J4
  go_wp2
  clear b0 b1 b2 b3 f0 f1 f2 f3 hl2
  generalize World.setCell _ ⟨_, 3, none⟩ _ = W6 at XB6 KB6 IB6 B6 ⊢
  have t2 := (HT.out _ B6.out).1.cell 2
  have hlT := (HT.out _ B6.out).1.lt
  simp only [List.getElem?_cons_succ, List.getElem?_cons_zero] at t2
  have i0 := IB6.out.cell 0
  have i1 := IB6.out.cell 1
  have i2 := IB6.out.cell 2
  have hli := IB6.out.lt
  simp at i0 i1 i2
  have hlk := fun n => HL.out _ (below_drewN B6.out n)
  go_quiet (fail)
  have XB7 := Lib.hid (XB6.out.keepsT ((KeepsT.refl [] _).drewN nq) (by simp))
  have KB7 := Lib.hid (KB6.out.keepsT ((KeepsT.refl [] _).drewN nq) (by simp))
  have IB7 := Lib.hid (IB6.out.keepsT ((KeepsT.refl [] _).drewN nq) (by simp))
  have B7 := Lib.hid (below_drewN B6.out nq)
  generalize World.drewN _ nq = W7 at XB7 KB7 IB7 B7 ⊢
  clear XB6 KB6 IB6 B6 t2 hlT i0 i1 i2 hli hlk
  have t1 := (HT.out _ B7.out).1.cell 1
  have hlT := (HT.out _ B7.out).1.lt
  simp only [List.getElem?_cons_zero, List.getElem?_cons_succ] at t1
  obtain ⟨g, cap, hfv, hgl, hgc⟩ : ∃ g cap, fv = .slice (some ⟨g, 0, none⟩) fs.length cap ∧ g < W7.heap.size ∧ W7.cell? ⟨g, i * 8 + 7, none⟩ = some (.int .u64 (lbl : Int)) := by
    have hO := (HT.out _ B7.out).2.1
    rcases own_shape hO with ⟨_, h9, _⟩ | ⟨g, cap, cs, hfv, _, hh, _⟩
    · omega
    · rw [hfv] at hO
      refine ⟨g, cap, hfv, hh.lt, ?_⟩
      have h7 := HRow.out 7 (by omega) (.int .u64 (lbl : Int)) (by rw [← HLBL.out]; rfl)
      obtain ⟨hj, hv7⟩ := List.getElem?_eq_some_iff.1 h7
      rw [own_cell hO _ hj, hv7]
  subst hfv
  have F7 := fun W => Lib.hid (HFl.out W lbl hvf)
  rw [hfl'] at F7
  have hi1 : (i : Int) < (fs.length : Int) := by omega
  have hi0 : (0 : Int) ≤ (i : Int) := by omega
  clear hfl' hvf
  go_wp2_with fail
  refine ((F7 _).out).mono ?_
  rintro e w8 ⟨rfl, hw⟩
  subst hw
  go_wp2
  go_ret
  exact ⟨rfl, B7.out⟩
set_option maxRecDepth 100000 in
set_option maxHeartbeats 4000000 in
theorem put_found (B T lab : Nat) (fs : List Fd) (fv sv nm : Value) (pm : Option Nat) (c0 : Nat) (hc0 : c0 < M64) (key x : V) (hv : VOk key) (hx : VOk x) (hk : keyB key = true) (hkind : key.k = 3) (w : World) (h : IsT w B T lab fs fv pm sv nm)
    (hfit : ∀ W, Below w.heap.size w W → Calls Try.prog 34 #[.pointer (some ⟨T, 0, none⟩), .string key.s, .int .i64 x.k] W fun e w' => e = .returned (.bool true) ∧ Below W.heap.size W w') (hBw : B ≤ w.heap.size) (i : Nat) (hpl : placeOf fs key = some i) (hfl : ∀ f, fs[i]? = some f → flowsB (c0 ||| key.l) f.2.l = true) : Calls Try.prog 15 #[.pointer (some ⟨T, 0, none⟩), .int .u64 (c0 : Int), key.agg, x.agg] w (fun e w' => ∃ f, fs[i]? = some f ∧ PutDid w B T lab (fs.set i (f.1, x.with (c0 ||| key.l))) fv pm sv nm e w') := by
  have HFit := Lib.hid hfit
  clear hfit
  obtain ⟨ff, hff, hsf⟩ := placeOf_some hpl
  have hp1 : placeI fs key = i := by unfold placeI; rw [hpl]
  have hp2 : placeB fs key = true := by unfold placeB; rw [hpl]; rfl
  have hfl' : flowsB (c0 ||| key.l) ff.2.l = true := hfl ff hff
  have hvf := (h.2.2.2.2.2.1 ff (List.mem_of_getElem? hff)).2.2.2.2
  have hrow : ∀ j, j < 8 → ∀ u, (fcells ff.1 ff.2)[j]? = some u → (rowF fs)[i * 8 + j]? = some u := fun j hj u hu => by rw [rowF_at fs i ff hff j hj]; exact hu
  have HRow := Lib.hid hrow
  have hi : i < fs.length := (List.getElem?_eq_some_iff.1 hff).1
  have HFF := Lib.hid hff
  obtain ⟨lbl, hlbl⟩ : ∃ l, ff.2.l = l := ⟨_, rfl⟩
  rw [hlbl] at hfl' hvf
  have HLBL := Lib.hid hlbl
  clear hsf hrow hff hlbl hfl
  have HK := fun W => Lib.hid (keyOf_any key W)
  unfold KeyIs at HK
  rw [hk] at HK
  have HT := Lib.hid (fun (W : World) (hb : Below w.heap.size w W) => h.below hb)
  have HL := Lib.hid (fun (W : World) (hb : Below w.heap.size w W) => look_places (h.below hb).2.2.1 key hv)
  have HW := Lib.hid (fun (W : World) (lv : Value) hj => with_any x lv (c0 ||| key.l) hx.2.2.2 (or_lt hc0 hv.2.2.2) W hj)
  have HJ2 := Lib.hid (fun (W : World) (n : Nat) h0 h1 => join2c c0 key.l hc0 hv.2.2.2 W n h0 h1)
  have HJ1 := Lib.hid (fun (W : World) (n : Nat) hc => join1_any (c0 ||| key.l) (or_lt hc0 hv.2.2.2) W n hc)
  have HFl := Lib.hid (fun (W : World) (y : Nat) (hy : y < M64) => flows_any (c0 ||| key.l) y (or_lt hc0 hv.2.2.2) hy W)
  have HV := Lib.hid hv
  have HX := Lib.hid hx
  have HH := Lib.hid h
  rw [hp1, hp2] at HL
  clear hk h hp1 hp2
  obtain ⟨vk, vn, vs, vl⟩ := key
  obtain ⟨xk, xn, xs, xl⟩ := x
  simp only [V.agg, V.with, kval] at HK HL HW HJ2 HJ1 HFl ⊢
  simp only at hkind
  subst hkind
  have HA := Lib.hid (((Below.refl w.heap.size w).alloc (Nat.le_refl _) (.cells #[.int .i64 3, .int .i64 vn, .string vs, .int .u64 (vl : Int)] 35)).alloc (by simp) (.cells #[.int .i64 xk, .int .i64 xn, .string xs, .int .u64 (xl : Int)] 35))
  have HKb := Lib.hid ((Has.new w 35 [.int .i64 3, .int .i64 vn, .string vs, .int .u64 (vl : Int)]).below ((Below.refl (w.heap.size + 1) (w.alloc (.cells #[.int .i64 3, .int .i64 vn, .string vs, .int .u64 (vl : Int)] 35))).alloc (by simp) (.cells #[.int .i64 xk, .int .i64 xn, .string xs, .int .u64 (xl : Int)] 35)) (by omega))
  have hXb := Has.new (w.alloc (.cells #[.int .i64 3, .int .i64 vn, .string vs, .int .u64 (vl : Int)] 35)) 35 [.int .i64 xk, .int .i64 xn, .string xs, .int .u64 (xl : Int)]
  simp only [World.size_alloc] at hXb
  have HXb := Lib.hid hXb
  clear hXb
  go_enter Try.func15, Try.ntmps15
  go_wp2_with fail
  refine ((HK _).out).mono ?_
  rintro e w1 ⟨rfl, hb1⟩
  have B1 := HA.out.trans (hb1.mono (by simp; omega))
  have i1 := (Below.refl w1.heap.size w1).alloc (Nat.le_refl _) (.cells #[.int .i64 3, .int .i64 vn, .string vs] 76)
  have kb2 := (HKb.out.below hb1 HKb.out.lt).below i1 (HKb.out.below hb1 HKb.out.lt).lt
  have xb2 := (HXb.out.below hb1 HXb.out.lt).below i1 (HXb.out.below hb1 HXb.out.lt).lt
  have ib2 := Has.new w1 76 [.int .i64 3, .int .i64 vn, .string vs]
  have hlw : w.heap.size + 1 < w1.heap.size := (HXb.out.below hb1 HXb.out.lt).lt
  have B2 := Lib.hid (B1.trans (i1.mono B1.size))
  have KB2 := Lib.hid kb2
  have XB2 := Lib.hid xb2
  have IB2 := Lib.hid ib2
  have a0 := kb2.cell 0
  have a1 := kb2.cell 1
  have a2 := kb2.cell 2
  have a3 := kb2.cell 3
  have b0 := xb2.cell 0
  have b1 := xb2.cell 1
  have b2 := xb2.cell 2
  have b3 := xb2.cell 3
  have hl1 := kb2.lt
  have hl2 := xb2.lt
  simp at a0 a1 a2 a3 b0 b1 b2 b3 hl1 hl2
  clear hb1 B1 i1 kb2 xb2 ib2
  go_wp2_with fail
  refine (HFit.out _ B2.out).mono ?_
  rintro e w2 ⟨rfl, hb2⟩
  have B3 := Lib.hid (B2.out.trans (hb2.mono B2.out.size))
  have kb3 := KB2.out.below hb2 KB2.out.lt
  have KB3 := Lib.hid kb3
  have XB3 := Lib.hid (XB2.out.below hb2 XB2.out.lt)
  have IB3 := Lib.hid (IB2.out.below hb2 IB2.out.lt)
  clear hb2 B2 KB2 XB2 IB2 a0 a1 a2 a3 b0 b1 b2 b3 hl1 hl2
  have a3 := kb3.cell 3
  have hl1 := kb3.lt
  simp at a3
  clear kb3
  have j3 := Has.new w2 23 [.int .u64 (c0 : Int), .int .u64 (vl : Int)]
  have J3 := Lib.hid (HJ2.out _ w2.heap.size (j3.cell 0) (j3.cell 1))
  clear j3
  go_wp2_with fail
  refine (J3.out).mono ?_
  rintro e w3 ⟨rfl, hw⟩
  have i3 := (Below.refl w2.heap.size w2).alloc (Nat.le_refl _) (.cells #[.int .u64 (c0 : Int), .int .u64 (vl : Int)] 23)
  rw [hw] at i3
  have B4 := Lib.hid (B3.out.trans (i3.mono B3.out.size))
  have KB4 := Lib.hid (KB3.out.below i3 KB3.out.lt)
  have xb4 := XB3.out.below i3 XB3.out.lt
  have XB4 := Lib.hid xb4
  have IB4 := Lib.hid (IB3.out.below i3 IB3.out.lt)
  have b0 := xb4.cell 0
  have b1 := xb4.cell 1
  have b2 := xb4.cell 2
  have b3 := xb4.cell 3
  have hl2 := xb4.lt
  simp at b0 b1 b2 b3
  clear hw i3 B3 KB3 XB3 IB3 J3 a3 hl1 xb4
  have j4 := Has.new w3 23 [.int .u64 ((c0 ||| vl : Nat) : Int)]
  have J4 := Lib.hid (HW.out (w3.alloc (.cells #[.int .u64 ((c0 ||| vl : Nat) : Int)] 23)) (.slice (some ⟨w3.heap.size, 0, none⟩) 1 1) (fun W hb => HJ1.out W w3.heap.size ((j4.below hb j4.lt).cell 0)))
  clear j4
  go_wp2_with fail
  refine (J4.out).mono ?_
  rintro e w5 ⟨rfl, hb5⟩
  have i4 := ((Below.refl w3.heap.size w3).alloc (Nat.le_refl _) (.cells #[.int .u64 ((c0 ||| vl : Nat) : Int)] 23)).trans (hb5.mono (by simp))
  have B5 := B4.out.trans (i4.mono B4.out.size)
  have kb5 := KB4.out.below i4 KB4.out.lt
  have xb5 := XB4.out.below i4 XB4.out.lt
  have ib5 := IB4.out.below i4 IB4.out.lt
  have hne : w1.heap.size ≠ w.heap.size + 1 := by omega
  have XB6 := Lib.hid (set4_self (x0 := .int .i64 xk) (x1 := .int .i64 xn) (x2 := .string xs) (x3 := .int .u64 ((xl ||| (c0 ||| vl) : Nat) : Int)) xb5)
  have KB6 := Lib.hid (set4_has (x0 := .int .i64 xk) (x1 := .int .i64 xn) (x2 := .string xs) (x3 := .int .u64 ((xl ||| (c0 ||| vl) : Nat) : Int)) kb5 (b := w.heap.size + 1) (by omega))
  have IB6 := Lib.hid (set4_has (x0 := .int .i64 xk) (x1 := .int .i64 xn) (x2 := .string xs) (x3 := .int .u64 ((xl ||| (c0 ||| vl) : Nat) : Int)) ib5 (b := w.heap.size + 1) hne)
  have B6 := Lib.hid (set4_below (x0 := .int .i64 xk) (x1 := .int .i64 xn) (x2 := .string xs) (x3 := .int .u64 ((xl ||| (c0 ||| vl) : Nat) : Int)) (b := w.heap.size + 1) B5 (by omega))
  have b0 := xb5.cell 0
  have b1 := xb5.cell 1
  have b2 := xb5.cell 2
  have b3 := xb5.cell 3
  have f0 := xb5.frozen 0
  have f1 := xb5.frozen 1
  have f2 := xb5.frozen 2
  have f3 := xb5.frozen 3
  have hl2 := xb5.lt
  simp at b0 b1 b2 b3
  clear hb5 i4 B5 kb5 xb5 ib5 B4 KB4 XB4 IB4 J4
  go_wp2
  clear b0 b1 b2 b3 f0 f1 f2 f3 hl2
  generalize World.setCell _ ⟨_, 3, none⟩ _ = W6 at XB6 KB6 IB6 B6 ⊢
  have t2 := (HT.out _ B6.out).1.cell 2
  have hlT := (HT.out _ B6.out).1.lt
  simp only [List.getElem?_cons_succ, List.getElem?_cons_zero] at t2
  have i0 := IB6.out.cell 0
  have i1 := IB6.out.cell 1
  have i2 := IB6.out.cell 2
  have hli := IB6.out.lt
  simp at i0 i1 i2
  have hlk := fun n => HL.out _ (below_drewN B6.out n)
  go_quiet (fail)
  have XB7 := Lib.hid (XB6.out.keepsT ((KeepsT.refl [] _).drewN nq) (by simp))
  have KB7 := Lib.hid (KB6.out.keepsT ((KeepsT.refl [] _).drewN nq) (by simp))
  have IB7 := Lib.hid (IB6.out.keepsT ((KeepsT.refl [] _).drewN nq) (by simp))
  have B7 := Lib.hid (below_drewN B6.out nq)
  generalize World.drewN _ nq = W7 at XB7 KB7 IB7 B7 ⊢
  clear XB6 KB6 IB6 B6 t2 hlT i0 i1 i2 hli hlk
  have t1 := (HT.out _ B7.out).1.cell 1
  have hlT := (HT.out _ B7.out).1.lt
  simp only [List.getElem?_cons_zero, List.getElem?_cons_succ] at t1
  obtain ⟨g, cap, hfv, hgl, hgc⟩ : ∃ g cap, fv = .slice (some ⟨g, 0, none⟩) fs.length cap ∧ g < W7.heap.size ∧ W7.cell? ⟨g, i * 8 + 7, none⟩ = some (.int .u64 (lbl : Int)) := by
    have hO := (HT.out _ B7.out).2.1
    rcases own_shape hO with ⟨_, h9, _⟩ | ⟨g, cap, cs, hfv, _, hh, _⟩
    · omega
    · rw [hfv] at hO
      refine ⟨g, cap, hfv, hh.lt, ?_⟩
      have h7 := HRow.out 7 (by omega) (.int .u64 (lbl : Int)) (by rw [← HLBL.out]; rfl)
      obtain ⟨hj, hv7⟩ := List.getElem?_eq_some_iff.1 h7
      rw [own_cell hO _ hj, hv7]
  subst hfv
  have F7 := fun W => Lib.hid (HFl.out W lbl hvf)
  rw [hfl'] at F7
  have hi1 : (i : Int) < (fs.length : Int) := by omega
  have hi0 : (0 : Int) ≤ (i : Int) := by omega
  clear hfl' hvf
  go_wp2_with fail
  refine ((F7 _).out).mono ?_
  rintro e w8 ⟨rfl, hw⟩
  subst hw
  go_wp2
  have hIT := HT.out _ B7.out
  obtain ⟨cs, hG7, hBg, hjl, hO9⟩ := own_val ⟨xk, xn, xs, xl ||| (c0 ||| vl)⟩ hIT.2.1.drew HFF.out
  have v4 := (hG7.cell (i * 8 + 4)).trans (List.getElem?_eq_getElem (by omega))
  have v5 := (hG7.cell (i * 8 + 5)).trans (List.getElem?_eq_getElem (by omega))
  have v6 := (hG7.cell (i * 8 + 6)).trans (List.getElem?_eq_getElem (by omega))
  have v7 := (hG7.cell (i * 8 + 7)).trans (List.getElem?_eq_getElem hjl)
  have q4 := hG7.frozen (i * 8 + 4)
  have q5 := hG7.frozen (i * 8 + 5)
  have q6 := hG7.frozen (i * 8 + 6)
  have q7 := hG7.frozen (i * 8 + 7)
  have d0 := XB7.out.drew.cell 0
  have d1 := XB7.out.drew.cell 1
  have d2 := XB7.out.drew.cell 2
  have d3 := XB7.out.drew.cell 3
  simp only [List.getElem?_cons_zero, List.getElem?_cons_succ] at d0 d1 d2 d3
  have hld := XB7.out.drew.lt
  have t1' : W7.drew.cell? ⟨T, 1, none⟩ = _ := t1
  have hlT' : T < W7.drew.heap.size := hlT
  have hgl' : g < W7.drew.heap.size := hgl
  have HEnd : Hid (∃ f, fs[i]? = some f ∧ PutDid w B T lab (fs.set i (f.1, ⟨xk, xn, xs, xl ||| (c0 ||| vl)⟩)) (.slice (some ⟨g, 0, none⟩) fs.length cap) pm sv nm (.returned (.int .i64 0)) ((((W7.drew.setCell ⟨g, i * 8 + 4, none⟩ (.int .i64 xk)).setCell ⟨g, i * 8 + 5, none⟩ (.int .i64 xn)).setCell ⟨g, i * 8 + 6, none⟩ (.string xs)).setCell ⟨g, i * 8 + 7, none⟩ (.int .u64 ((xl ||| (c0 ||| vl) : Nat) : Int)))) := Lib.hid (by
    have hTg : T ≠ g := fun e => (hIT.1.ne (t := 66) (u := 42) (show Has W7 T 42 cs by rw [e]; exact hG7) (by decide)) rfl
    have hset : ∀ (a : World) (j : Nat) (u : Value) (ds : List Value), Has a g 42 ds → KpC [66, 42] a (a.setCell ⟨g, j, none⟩ u) := fun a j u ds hd => KpC.keeps (Keeps.set a g j u) hd (by simp)
    have hgm : ∀ x ∈ [g], x ∈ tblk T (.slice (some ⟨g, 0, none⟩) fs.length cap) pm ∨ w.heap.size ≤ x := by simp [tblk, Value.ownBlock]
    refine ⟨ff, HFF.out, rfl, _, pm, ⟨?_, hO9, ?_, hIT.2.2.2.1, hIT.2.2.2.2.1, fun f hf => ?_, by simpa using hIT.2.2.2.2.2.2⟩, ?_, ⟨((((((Keeps.below' B7.out (tblk T (.slice (some ⟨g, 0, none⟩) fs.length cap) pm)).trans (Keeps.drew [] _) (by simp)).trans (Keeps.set _ g _ _) hgm).trans (Keeps.set _ g _ _) hgm).trans (Keeps.set _ g _ _) hgm).trans (Keeps.set _ g _ _) hgm), fun x hx => .inl hx⟩, ?_⟩
    · exact (((hIT.1.drew.keeps (Keeps.set _ g _ _) (by simpa using hTg)).keeps (Keeps.set _ g _ _) (by simpa using hTg)).keeps (Keeps.set _ g _ _) (by simpa using hTg)).keeps (Keeps.set _ g _ _) (by simpa using hTg)
    · have hP := hIT.2.2.1
      cases pm with
      | none =>
        have : fs = [] := hP
        rw [this] at hi
        simp at hi
      | some b =>
        obtain ⟨h0, D, hD, hq⟩ := hP
        have hne : b ≠ g := hIT.2.2.1.ne hG7
        refine ⟨h0, D, ?_, fun v kl hv hkl => ?_⟩
        · rw [List.length_set]
          exact (((hD.drew.setCell (a := ⟨g, _, none⟩) hne _).setCell (a := ⟨g, _, none⟩) hne _).setCell (a := ⟨g, _, none⟩) hne _).setCell (a := ⟨g, _, none⟩) hne _
        · have := hq v kl hv hkl
          unfold placeB placeI at this ⊢
          rw [placeOf_set fs i ff HFF.out]
          exact this
    · rcases List.mem_or_eq_of_mem_set hf with hf | rfl
      · exact hIT.2.2.2.2.2.1 f hf
      · exact ⟨(hIT.2.2.2.2.2.1 ff (List.mem_of_getElem? HFF.out)).1, HX.out.1, HX.out.2.1, HX.out.2.2.1, or_lt HX.out.2.2.2 (or_lt hc0 HV.out.2.2.2)⟩
    · exact ((((KpC.of (KeepsT.below B7.out []) (by simp)).trans (hset W7.drew _ _ _ hG7)).trans (hset _ _ _ _ (hG7.set _ _))).trans (hset _ _ _ _ ((hG7.set _ _).set _ _))).trans (hset _ _ _ _ (((hG7.set _ _).set _ _).set _ _))
    · exact (((((B7.out.mono hBw).drew).setCell (p := ⟨g, _, none⟩) hBg _).setCell (p := ⟨g, _, none⟩) hBg _).setCell (p := ⟨g, _, none⟩) hBg _).setCell (p := ⟨g, _, none⟩) hBg _)
  clear hIT hG7 hO9 t1 hlT hgl hgc
  refine wp_region_still_tail 8 (by kernel_rfl) (by kernel_rfl) ?_
  simp only [List.take_succ_cons, List.take_zero, List.drop_succ_cons, List.drop_zero]
  change wpStill _ _ (World.drew _) (fun a' => wpList _ _ _ _ a' (World.drew _)) _ _
  generalize World.drew W7 = W8d at v4 v5 v6 v7 q4 q5 q6 q7 d0 d1 d2 d3 hld t1' hlT' hgl' HEnd ⊢
  repeat still_step
  refine wpStill_nil ?_
  go_wp2
  go_ret
  exact HEnd.out
end TabD
end Go.Proofs.Ytpmbbkhhnkhcbaa
