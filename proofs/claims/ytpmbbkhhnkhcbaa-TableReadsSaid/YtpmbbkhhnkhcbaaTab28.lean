/- The document's Put. -/
import Derived.Test.YtpmbbkhhnkhcbaaTab26
import Derived.Test.YtpmbbkhhnkhcbaaTab27
namespace Go.Proofs.Ytpmbbkhhnkhcbaa
open Go.RowKit ObjM Go.Maps
namespace TabD
open LabelM LabelD ValD

/-- The document's table. -/
def IsRS (w : World) (B R lab : Nat) (fs : List Fd) (fv sv : Value) (ss : List St) : Prop :=
  IsR w B R lab fs fv sv ∧ w.ownsRow B 44 2 sv ss.length (rowS ss) ∧ (∀ s ∈ ss, StOk s) ∧ ss.length ≤ 1000000
theorem IsRS.keeps {w w' : World} {B R lab : Nat} {fs : List Fd} {fv sv : Value} {ss : List St} {S : List Nat} (h : IsRS w B R lab fs fv sv ss) (k : Keeps S w w') (h0 : R ∉ S) (h1 : ∀ b, fv.ownBlock = some b → b ∉ S) (h2 : ∀ b, sv.ownBlock = some b → b ∉ S) : IsRS w' B R lab fs fv sv ss :=
  ⟨⟨h.1.1.keeps k h0, own_keeps h.1.2.1 k h1, h.1.2.2⟩, own_keeps h.2.1 k h2, h.2.2⟩
theorem IsRS.below {w w' : World} {B R lab : Nat} {fs : List Fd} {fv sv : Value} {ss : List St} (h : IsRS w B R lab fs fv sv ss) (hb : Below w.heap.size w w') : IsRS w' B R lab fs fv sv ss := h.keeps (Keeps.below' hb []) (by simp) (by simp) (by simp)
def putR2 (lab : Nat) (fs : List Fd) (ss : List St) (c : Nat) (key v : V) : Int × List Fd :=
  if key.k = 3 ∧ allowsB ss (key8 key.s) v.k = false then (42, fs)
  else match placeOf fs key with
    | none => if flowsB (c ||| key.l) lab = true then (0, fs ++ [({ key with l := 0 }, v.with (c ||| key.l))]) else (40, fs)
    | some i => match fs[i]? with
      | none => (40, fs)
      | some f => if flowsB (c ||| key.l) f.2.l = true then (0, fs.set i (f.1, v.with (c ||| key.l))) else (40, fs)
def putR (lab : Nat) (fs : List Fd) (ss : List St) (c : Nat) (key v : V) : Int × List Fd :=
  if keyB key = false then (41, fs) else putR2 lab fs ss c key v
def RPut (w : World) (B R lab : Nat) (fv sv : Value) (ss : List St) (r : Int × List Fd) (e : Ending) (w' : World) : Prop :=
  e = .returned (.int .i64 r.1) ∧ ∃ fv', IsRS w' B R lab r.2 fv' sv ss ∧ Keeps (R :: fv.ownBlock.toList) w w' ∧ ∀ x, fv'.ownBlock = some x → fv.ownBlock = some x ∨ w.heap.size ≤ x
theorem RPut.out {w w' : World} {B R lab : Nat} {fs : List Fd} {fv sv : Value} {ss : List St} {er : Int} (h : IsRS w B R lab fs fv sv ss) (hb : Below w.heap.size w w') : RPut w B R lab fv sv ss (er, fs) (.returned (.int .i64 er)) w' :=
  ⟨rfl, fv, h.below hb, Keeps.below' hb _, fun _ hx => .inl hx⟩
/-- Two boxes of the call's own. -/
structure Bx (w W : World) (kc xc : List Value) : Prop where
  below : Below w.heap.size w W
  kb : Has W w.heap.size 35 kc
  xb : Has W (w.heap.size + 1) 35 xc
theorem Bx.start (w : World) (kc xc : List Value) : Bx w ((w.alloc (.cells kc.toArray 35)).alloc (.cells xc.toArray 35)) kc xc :=
  ⟨((Below.refl w.heap.size w).alloc (Nat.le_refl _) _).alloc (by simp) _, (Has.new w 35 kc).keepsT ((KeepsT.refl [] _).alloc _) (by simp), by
    have := Has.new (w.alloc (.cells kc.toArray 35)) 35 xc
    simpa using this⟩
theorem Bx.call {w W W' : World} {kc xc : List Value} (h : Bx w W kc xc) (hb : Below W.heap.size W W') : Bx w W' kc xc :=
  ⟨h.below.trans (hb.mono h.below.size), h.kb.below hb h.kb.lt, h.xb.below hb h.xb.lt⟩
theorem Bx.drewN {w W : World} {kc xc : List Value} (h : Bx w W kc xc) (n : Nat) : Bx w (W.drewN n) kc xc := ⟨below_drewN h.below n, h.kb, h.xb⟩
theorem Bx.drew {w W : World} {kc xc : List Value} (h : Bx w W kc xc) : Bx w W.drew kc xc := ⟨h.below.drew, h.kb, h.xb⟩
theorem Bx.x4 {w W : World} {kc : List Value} {y0 y1 y2 y3 : Value} (h : Bx w W kc [y0, y1, y2, y3]) (x0 x1 x2 x3 : Value) : Bx w ((((W.setCell ⟨w.heap.size + 1, 0, none⟩ x0).setCell ⟨w.heap.size + 1, 1, none⟩ x1).setCell ⟨w.heap.size + 1, 2, none⟩ x2).setCell ⟨w.heap.size + 1, 3, none⟩ x3) kc [x0, x1, x2, x3] :=
  ⟨set4_below h.below (by omega), set4_has h.kb (by omega), set4_self h.xb⟩
theorem Bx.k3 {w W : World} {y0 y1 y2 y3 : Value} {xc : List Value} (h : Bx w W [y0, y1, y2, y3] xc) (x3 : Value) : Bx w (W.setCell ⟨w.heap.size, 3, none⟩ x3) [y0, y1, y2, x3] xc :=
  ⟨h.below.setCell (p := ⟨w.heap.size, 3, none⟩) (Nat.le_refl _) _, h.kb.set 3 x3, h.xb.keeps (Keeps.set W w.heap.size 3 x3) (by simp)⟩
theorem app_R (B R : Nat) (fs : List Fd) (x y : V) (fv : Value) (lv sv : Value) (hn : fs.length ≤ 1000000) (w : World) (hBw : B ≤ w.heap.size) (hG : Has w R 33 [lv, fv, sv]) (hO : w.ownsRow B 42 8 fv fs.length (rowF fs)) :
    ∃ g' cap' w1, (Builtin.append_ #[30, 30] 30 #[fv, .slice (some ⟨w.heap.size, 0, none⟩) 1 1]).run Try.prog ((w.alloc (.cells (fcells x y).toArray 42)).drew) = .ok (.slice (some ⟨g', 0, none⟩) (fs.length + 1) cap') w1 ∧
      w1.cell? ⟨R, 1, none⟩ = some fv ∧ w1.frozen? ⟨R, 1, none⟩ = false ∧ R < w1.heap.size ∧
      Has (w1.setCell ⟨R, 1, none⟩ (.slice (some ⟨g', 0, none⟩) (fs.length + 1) cap')) R 33 [lv, .slice (some ⟨g', 0, none⟩) (fs.length + 1) cap', sv] ∧
      (w1.setCell ⟨R, 1, none⟩ (.slice (some ⟨g', 0, none⟩) (fs.length + 1) cap')).ownsRow B 42 8 (.slice (some ⟨g', 0, none⟩) (fs.length + 1) cap') (fs ++ [(x, y)]).length (rowF (fs ++ [(x, y)])) ∧
      Keeps (R :: fv.ownBlock.toList) w (w1.setCell ⟨R, 1, none⟩ (.slice (some ⟨g', 0, none⟩) (fs.length + 1) cap')) ∧ (fv.ownBlock = some g' ∨ w.heap.size ≤ g') := by
  obtain ⟨i0, hi, hz0, hz1, hz2⟩ := info_parts infoFd
  have hown1 : ((w.alloc (.cells (fcells x y).toArray 42)).drew).ownsRow B 42 8 fv fs.length (rowF fs) := (hO.alloc _).drew
  have hnew := (Has.new w 42 (fcells x y)).drew
  obtain ⟨v', w1, hrun, hown', hgrow, -, hob⟩ := run_append_own_at (P := Try.prog) (w := (w.alloc (.cells (fcells x y).toArray 42)).drew) B 30 30 42 i0 (.agg #[.int .i64 0, .int .i64 0, .string ⟨#[]⟩, .int .u64 0, .int .i64 0, .int .i64 0, .string ⟨#[]⟩, .int .u64 0]) 8 80 Try.underlying30 hi hz0 hz1 hz2 rfl (by decide) fv fs.length (rowF fs) hown1 ⟨w.heap.size, 0, none⟩ 1 1 (fcells x y) rfl (by
    intro k u hu
    rw [addr_at, Nat.zero_add, hnew.cell]
    exact hu) (by simp [fcells, V.cells, Value.oneCell']) (by unfold maxLen; omega) (by omega) (by simp; omega)
  obtain ⟨g', cap', rfl⟩ := ownsRow_succ hown'
  have hk1 : Keeps fv.ownBlock.toList w w1 := (((Keeps.refl fv.ownBlock.toList w).trans (Keeps.alloc [] w _) (by simp)).trans (Keeps.drew [] _) (by simp)).trans (Keeps.grown hgrow) (fun x hx => .inl hx)
  have hG1 : Has w1 R 33 [lv, fv, sv] := hG.keeps hk1 fun hm => by
    obtain ⟨cs, hc⟩ := own_row hO R (by simpa using hm)
    exact hc.ne hG (by decide) rfl
  have hc1 := hG1.cell 1
  simp only [List.getElem?_cons_zero, List.getElem?_cons_succ] at hc1
  refine ⟨g', cap', w1, hrun, hc1, hG1.frozen 1, hG1.lt, hG1.set 1 _, ?_, (hk1.mono (T := R :: fv.ownBlock.toList) fun x hx => .inl (List.mem_cons_of_mem _ hx)).trans (Keeps.set w1 R 1 _) (by simp), ?_⟩
  · rw [rowF_snoc, List.length_append]
    exact own_keeps hown' (Keeps.set w1 R 1 _) (fun g hg => by
      have := own_ne hown' hG1 (by decide) g hg
      simpa using this)
  · rcases hob with h | h
    · left
      rw [← h]
      simp [Value.ownBlock]
    · right
      simp [Value.ownBlock] at h
      omega
set_option maxRecDepth 100000 in
set_option maxHeartbeats 8000000 in
theorem rput_3 (B R lab : Nat) (fs : List Fd) (fv sv : Value) (ss : List St) (c0 : Nat) (hc0 : c0 < M64) (key x : V) (hv : VOk key) (hx : VOk x) (hk : keyB key = true) (hkind : key.k = 3) (w : World) (h : IsRS w B R lab fs fv sv ss) (hB : B ≤ w.heap.size) (hlen : fs.length < 1000000) :
    Calls Try.prog 27 #[.pointer (some ⟨R, 0, none⟩), .int .u64 (c0 : Int), key.agg, x.agg] w (RPut w B R lab fv sv ss (putR2 lab fs ss c0 key x)) := by
  have HK := fun W => Lib.hid (refkey_any key W)
  simp only [hk] at HK
  have HAl := fun W hb => Lib.hid (allows_any B sv ss key.s x.k W (h.below (w' := W) hb).2.1 h.2.2.2)
  have HFi := fun W hb => Lib.hid (refFind_any B R lab fs fv sv key W (h.below (w' := W) hb).1)
  have HJ := fun W => Lib.hid (refJoin_any c0 key.l hc0 hv.2.2.2 W)
  have HW := fun W => Lib.hid (refWith_any x (c0 ||| key.l) hx.2.2.2 (or_lt hc0 hv.2.2.2) W)
  have HFl := Lib.hid (fun (W : World) (y : Nat) (hy : y < M64) => refFlows_any (c0 ||| key.l) y (or_lt hc0 hv.2.2.2) hy W)
  have HT := Lib.hid (fun (W : World) (hb : Below w.heap.size w W) => h.below (w' := W) hb)
  have HV := Lib.hid hv
  have HX := Lib.hid hx
  have HH := Lib.hid h
  have hlab := h.1.2.2.1
  have H42 : Hid (key.k = 3 → allowsB ss (key8 key.s) x.k = false → putR2 lab fs ss c0 key x = (42, fs)) := Lib.hid fun h1 h2 => by unfold putR2; rw [if_pos ⟨h1, h2⟩]
  have HN40 : Hid (¬ (key.k = 3 ∧ allowsB ss (key8 key.s) x.k = false) → placeOf fs key = none → flowsB (c0 ||| key.l) lab = false → putR2 lab fs ss c0 key x = (40, fs)) := Lib.hid fun h1 h2 h3 => by unfold putR2; rw [if_neg h1, h2]; simp [h3]
  have HN0 : Hid (¬ (key.k = 3 ∧ allowsB ss (key8 key.s) x.k = false) → placeOf fs key = none → flowsB (c0 ||| key.l) lab = true → putR2 lab fs ss c0 key x = (0, fs ++ [({ key with l := 0 }, x.with (c0 ||| key.l))])) := Lib.hid fun h1 h2 h3 => by unfold putR2; rw [if_neg h1, h2]; simp [h3]
  have HF40 : Hid (¬ (key.k = 3 ∧ allowsB ss (key8 key.s) x.k = false) → ∀ i f, placeOf fs key = some i → fs[i]? = some f → flowsB (c0 ||| key.l) f.2.l = false → putR2 lab fs ss c0 key x = (40, fs)) := Lib.hid fun h1 i f h2 h3 h4 => by unfold putR2; rw [if_neg h1, h2]; simp [h3, h4]
  have HF0 : Hid (¬ (key.k = 3 ∧ allowsB ss (key8 key.s) x.k = false) → ∀ i f, placeOf fs key = some i → fs[i]? = some f → flowsB (c0 ||| key.l) f.2.l = true → putR2 lab fs ss c0 key x = (0, fs.set i (f.1, x.with (c0 ||| key.l)))) := Lib.hid fun h1 i f h2 h3 h4 => by unfold putR2; rw [if_neg h1, h2]; simp [h3, h4]
  obtain ⟨r, hr⟩ : ∃ r, putR2 lab fs ss c0 key x = r := ⟨_, rfl⟩
  rw [hr] at H42 HN40 HN0 HF40 HF0 ⊢
  obtain ⟨al, hal⟩ : ∃ b, allowsB ss (key8 key.s) x.k = b := ⟨_, rfl⟩
  rw [hal] at H42 HN40 HN0 HF40 HF0
  simp only [hal] at HAl
  have hpl : refPlace fs key = match placeOf fs key with | some i => (i : Int) | none => -1 := by unfold refPlace; rw [if_pos hk]; cases placeOf fs key <;> rfl
  simp only [hpl] at HFi
  obtain ⟨pl, hplo⟩ : ∃ p, placeOf fs key = p := ⟨_, rfl⟩
  simp only [hplo] at HFi
  have HPL := Lib.hid hplo
  clear hpl hk hr hal h hv hx hplo
  obtain ⟨vk, vn, vs, vl⟩ := key
  obtain ⟨xk, xn, xs, xl⟩ := x
  simp only [V.agg, V.with] at HK HAl HFi HJ HW HFl H42 HN40 HN0 HF40 HF0 ⊢
  simp only at hkind
  subst hkind
  have BX := Lib.hid (Bx.start w [.int .i64 3, .int .i64 vn, .string vs, .int .u64 (vl : Int)] [.int .i64 xk, .int .i64 xn, .string xs, .int .u64 (xl : Int)])
  go_enter Try.func27, Try.ntmps27
  go_wp2_with fail
  with_reducible refine ((HK _).out).mono ?_
  rintro e w1 ⟨rfl, hb1⟩
  have B1 := Lib.hid (BX.out.call hb1)
  have k0 := B1.out.kb.cell 0
  have k2 := B1.out.kb.cell 2
  have lk := B1.out.kb.lt
  have x0 := B1.out.xb.cell 0
  have lx := B1.out.xb.lt
  have t2 := (HT.out _ B1.out.below).1.1.cell 2
  have lT := (HT.out _ B1.out.below).1.1.lt
  simp only [List.getElem?_cons_zero, List.getElem?_cons_succ] at k0 k2 x0 t2
  clear hb1 BX
  go_wp2
  refine wp_region_still_tail 12 (by kernel_rfl) (by kernel_rfl) ?_
  simp only [List.take_succ_cons, List.take_zero, List.drop_succ_cons, List.drop_zero]
  change wpStill _ _ (World.drew _) (fun a' => wpList _ _ _ _ a' (World.drew _)) _ _
  have B2 := Lib.hid B1.out.drew
  have k0' : (World.drew w1).cell? _ = _ := k0
  have k2' : (World.drew w1).cell? _ = _ := k2
  have x0' : (World.drew w1).cell? _ = _ := x0
  have t2' : (World.drew w1).cell? _ = _ := t2
  have lk' : _ < (World.drew w1).heap.size := lk
  have lx' : _ < (World.drew w1).heap.size := lx
  have lT' : _ < (World.drew w1).heap.size := lT
  clear k0 k2 x0 t2 lk lx lT B1
  generalize World.drew w1 = W2 at *
  repeat still_step
  refine wpStill_nil ?_
  go_wp2_with fail
  refine ((HAl _ B2.out.below).out).mono ?_
  rintro e w3 ⟨rfl, hb3⟩
  have B3 := Lib.hid (B2.out.call hb3)
  clear hb3 B2 k0' k2' x0' t2' lk' lx' lT'
  have k3 := B3.out.kb.cell 3
  have lk := B3.out.kb.lt
  have x0 := B3.out.xb.cell 0
  have x1 := B3.out.xb.cell 1
  have x2 := B3.out.xb.cell 2
  have x3 := B3.out.xb.cell 3
  have lx := B3.out.xb.lt
  simp only [List.getElem?_cons_zero, List.getElem?_cons_succ] at k3 x0 x1 x2 x3
  cases al
  · have hr := H42.out (by trivial) (by trivial)
    subst hr
    go_wp2
    go_ret
    exact RPut.out HH.out B3.out.below
  have HA1 : Hid (¬ ((3 : Int) = 3 ∧ true = false)) := Lib.hid (by simp)
  go_wp2_with fail
  refine ((HJ _).out).mono ?_
  rintro e w4 ⟨rfl, hw⟩
  subst hw
  go_wp2_with fail
  refine ((HW _).out).mono ?_
  rintro e w5 ⟨rfl, hb5⟩
  have B5 := Lib.hid (B3.out.call hb5)
  have B6 := Lib.hid (B5.out.x4 (.int .i64 xk) (.int .i64 xn) (.string xs) (.int .u64 ((xl ||| (c0 ||| vl) : Nat) : Int)))
  clear hb5 B3 k3 lk x0 x1 x2 x3 lx
  have k0 := B5.out.kb.cell 0
  have k1 := B5.out.kb.cell 1
  have k2 := B5.out.kb.cell 2
  have k3 := B5.out.kb.cell 3
  have lk := B5.out.kb.lt
  have x0 := B5.out.xb.cell 0
  have x1 := B5.out.xb.cell 1
  have x2 := B5.out.xb.cell 2
  have x3 := B5.out.xb.cell 3
  have lx := B5.out.xb.lt
  have q0 := B5.out.xb.frozen 0
  have q1 := B5.out.xb.frozen 1
  have q2 := B5.out.xb.frozen 2
  have q3 := B5.out.xb.frozen 3
  simp only [List.getElem?_cons_zero, List.getElem?_cons_succ] at k0 k1 k2 k3 x0 x1 x2 x3
  go_wp2_with fail
  clear k0 k1 k2 k3 lk x0 x1 x2 x3 lx q0 q1 q2 q3 B5
  generalize World.setCell _ ⟨_, 3, none⟩ _ = W6 at B6 ⊢
  refine ((HFi _ B6.out.below).out).mono ?_
  rintro e w7 ⟨rfl, hb7⟩
  have B7 := Lib.hid (B6.out.call hb7)
  clear hb7 B6
  have t0 := (HT.out _ B7.out.below).1.1.cell 0
  have t1 := (HT.out _ B7.out.below).1.1.cell 1
  have lT := (HT.out _ B7.out.below).1.1.lt
  simp only [List.getElem?_cons_zero, List.getElem?_cons_succ] at t0 t1
  cases pl with
  | none =>
    obtain ⟨fl, hfl⟩ : ∃ b, flowsB (c0 ||| vl) lab = b := ⟨_, rfl⟩
    have F7 := fun W => Lib.hid (HFl.out W lab hlab)
    rw [hfl] at F7 HN40 HN0
    clear hfl
    go_wp2_with fail
    refine ((F7 _).out).mono ?_
    rintro e w8 ⟨rfl, hw⟩
    subst hw
    cases fl
    · have hr := HN40.out HA1.out HPL.out rfl
      subst hr
      go_wp2
      go_ret
      exact RPut.out HH.out B7.out.below
    · have hr := HN0.out HA1.out HPL.out rfl
      subst hr
      have B8 := Lib.hid (B7.out.k3 (.int .u64 0))
      have k3 := B7.out.kb.cell 3
      have q3 := B7.out.kb.frozen 3
      have lk := B7.out.kb.lt
      simp only [List.getElem?_cons_zero, List.getElem?_cons_succ] at k3
      clear t0 t1 lT
      go_wp2
      clear k3 q3 lk B7
      generalize World.setCell w7 _ _ = W8 at B8 ⊢
      have hI8 := HT.out _ B8.out.below
      have hlen' := hI8.1.2.2.2.2
      obtain ⟨g', cap', w11, hrun, a0, a1, a2, hT11, hO11, hkp11, hg11⟩ := app_R B R fs ⟨3, vn, vs, 0⟩ ⟨xk, xn, xs, xl ||| (c0 ||| vl)⟩ fv _ _ hlen' W8 (Nat.le_trans hB B8.out.below.size) hI8.1.1 hI8.1.2.1
      have hsv : w11.heap.size = w11.heap.size := rfl
      have HEnd : Hid (RPut w B R lab fv sv ss (0, fs ++ [(⟨3, vn, vs, 0⟩, ⟨xk, xn, xs, xl ||| (c0 ||| vl)⟩)]) (.returned (.int .i64 0)) (w11.setCell ⟨R, 1, none⟩ (.slice (some ⟨g', 0, none⟩) (fs.length + 1) cap'))) := Lib.hid (by
        refine ⟨rfl, _, ⟨⟨hT11, hO11, hI8.1.2.2.1, fun f hf => ?_, by simp; omega⟩, own_keeps hI8.2.1 hkp11 fun b hb hm => ?_, hI8.2.2⟩, ((Keeps.below' B8.out.below _).trans hkp11 fun x hx => .inl hx), fun x hx => ?_⟩
        · rcases List.mem_append.1 hf with h9 | h9
          · exact hI8.1.2.2.2.1 f h9
          · have : f = (⟨3, vn, vs, 0⟩, ⟨xk, xn, xs, xl ||| (c0 ||| vl)⟩) := by simpa using h9
            subst this
            exact ⟨⟨HV.out.1, HV.out.2.1, HV.out.2.2.1, (by decide : (0 : Nat) < M64)⟩, ⟨HX.out.1, HX.out.2.1, HX.out.2.2.1, or_lt HX.out.2.2.2 (or_lt hc0 HV.out.2.2.2)⟩⟩
        · obtain ⟨cs, hc⟩ := own_row hI8.2.1 b hb
          rcases List.mem_cons.1 hm with rfl | hm
          · exact hc.ne hI8.1.1 (by decide) rfl
          · obtain ⟨ds, hd⟩ := own_row hI8.1.2.1 b (by simpa using hm)
            exact hc.ne hd (by decide) rfl
        · have : x = g' := by simpa [Value.ownBlock, eq_comm] using hx
          subst this
          rcases hg11 with h9 | h9
          · exact .inl h9
          · have := B8.out.below.size
            exact .inr (by omega))
      have c0' := hI8.1.1.cell 1
      have hlR := hI8.1.1.lt
      have e0 := B8.out.kb.cell 0
      have e1 := B8.out.kb.cell 1
      have e2 := B8.out.kb.cell 2
      have e3 := B8.out.kb.cell 3
      have hle := B8.out.kb.lt
      have d0 := B8.out.xb.cell 0
      have d1 := B8.out.xb.cell 1
      have d2 := B8.out.xb.cell 2
      have d3 := B8.out.xb.cell 3
      have hld := B8.out.xb.lt
      simp only [List.getElem?_cons_zero, List.getElem?_cons_succ] at c0' e0 e1 e2 e3 d0 d1 d2 d3
      simp only [fcells, V.cells, List.cons_append, List.nil_append] at hrun
      clear hT11 hO11 hkp11 hg11 hI8 hsv
      go_region_law (refine step_append_own rfl (.tmp 53) (.tmp 57) 30 rfl _ _ _ _ rfl rfl hrun ?_)
      all_goals
        clear hrun
        go_wp2
        go_ret
        exact HEnd.out
  | some i =>
    obtain ⟨f, hf, -⟩ := placeOf_some HPL.out
    have hI7 := HT.out _ B7.out.below
    have hfo := hI7.1.2.2.2.1 f (List.mem_of_getElem? hf)
    have hi : i < fs.length := (List.getElem?_eq_some_iff.1 hf).1
    have HFF := Lib.hid hf
    obtain ⟨lbl, hlbl⟩ : ∃ l, f.2.l = l := ⟨_, rfl⟩
    have hvf := hfo.2.2.2.2
    have HRow : Hid ((rowF fs)[i * 8 + 7]? = some (.int .u64 (lbl : Int))) := Lib.hid (by rw [rowF_at fs i f hf 7 (by omega), ← hlbl]; rfl)
    obtain ⟨g, cap, hfv, hgl, hgc⟩ : ∃ g cap, fv = .slice (some ⟨g, 0, none⟩) fs.length cap ∧ g < w7.heap.size ∧ w7.cell? ⟨g, i * 8 + 7, none⟩ = some (.int .u64 (lbl : Int)) := by
      have hO := hI7.1.2.1
      rcases own_shape hO with ⟨_, h9, _⟩ | ⟨g, cap, cs, hfv, _, hh, _⟩
      · omega
      · rw [hfv] at hO
        obtain ⟨hj, hv7⟩ := List.getElem?_eq_some_iff.1 HRow.out
        exact ⟨g, cap, hfv, hh.lt, by rw [own_cell hO _ hj, hv7]⟩
    subst hfv
    obtain ⟨fl, hfl⟩ : ∃ b, flowsB (c0 ||| vl) lbl = b := ⟨_, rfl⟩
    have F7 := fun W => Lib.hid (HFl.out W lbl (by rw [← hlbl]; exact hvf))
    rw [hfl] at F7
    have HL0 := Lib.hid (fun h1 => HF40.out HA1.out i f HPL.out hf (h1 : flowsB (c0 ||| vl) f.2.l = false))
    have HL1 := Lib.hid (fun h1 => HF0.out HA1.out i f HPL.out hf (h1 : flowsB (c0 ||| vl) f.2.l = true))
    rw [hlbl, hfl] at HL0 HL1
    have hi1 : (i : Int) < (fs.length : Int) := by omega
    have hi0 : (0 : Int) ≤ (i : Int) := by omega
    have hin : ¬ (i : Int) < 0 := by omega
    clear hI7 hfo hf hlbl hvf hfl HN40 HN0
    go_wp2_with fail
    refine ((F7 _).out).mono ?_
    rintro e w8 ⟨rfl, hw⟩
    subst hw
    cases fl
    · have hr := HL0.out rfl
      subst hr
      go_wp2
      go_ret
      exact RPut.out HH.out B7.out.below
    · have hr := HL1.out rfl
      subst hr
      go_wp2
      have hIT := HT.out _ B7.out.below
      obtain ⟨cs, hG7, hBg, hjl, hO9⟩ := own_val ⟨xk, xn, xs, xl ||| (c0 ||| vl)⟩ hIT.1.2.1.drew HFF.out
      have v4 := (hG7.cell (i * 8 + 4)).trans (List.getElem?_eq_getElem (by omega))
      have v5 := (hG7.cell (i * 8 + 5)).trans (List.getElem?_eq_getElem (by omega))
      have v6 := (hG7.cell (i * 8 + 6)).trans (List.getElem?_eq_getElem (by omega))
      have v7 := (hG7.cell (i * 8 + 7)).trans (List.getElem?_eq_getElem hjl)
      have q4 := hG7.frozen (i * 8 + 4)
      have q5 := hG7.frozen (i * 8 + 5)
      have q6 := hG7.frozen (i * 8 + 6)
      have q7 := hG7.frozen (i * 8 + 7)
      have d0 := B7.out.drew.xb.cell 0
      have d1 := B7.out.drew.xb.cell 1
      have d2 := B7.out.drew.xb.cell 2
      have d3 := B7.out.drew.xb.cell 3
      simp only [List.getElem?_cons_zero, List.getElem?_cons_succ] at d0 d1 d2 d3
      have hld := B7.out.drew.xb.lt
      have t1' : w7.drew.cell? ⟨R, 1, none⟩ = _ := t1
      have hlT' : R < w7.drew.heap.size := lT
      have hgl' : g < w7.drew.heap.size := hgl
      have HEnd : Hid (RPut w B R lab (.slice (some ⟨g, 0, none⟩) fs.length cap) sv ss (0, fs.set i (f.1, ⟨xk, xn, xs, xl ||| (c0 ||| vl)⟩)) (.returned (.int .i64 0)) ((((w7.drew.setCell ⟨g, i * 8 + 4, none⟩ (.int .i64 xk)).setCell ⟨g, i * 8 + 5, none⟩ (.int .i64 xn)).setCell ⟨g, i * 8 + 6, none⟩ (.string xs)).setCell ⟨g, i * 8 + 7, none⟩ (.int .u64 ((xl ||| (c0 ||| vl) : Nat) : Int)))) := Lib.hid (by
        have hks : Keeps [g] w7 ((((w7.drew.setCell ⟨g, i * 8 + 4, none⟩ (.int .i64 xk)).setCell ⟨g, i * 8 + 5, none⟩ (.int .i64 xn)).setCell ⟨g, i * 8 + 6, none⟩ (.string xs)).setCell ⟨g, i * 8 + 7, none⟩ (.int .u64 ((xl ||| (c0 ||| vl) : Nat) : Int))) := ((((Keeps.drew [g] w7).trans (Keeps.set _ g _ _) (by simp)).trans (Keeps.set _ g _ _) (by simp)).trans (Keeps.set _ g _ _) (by simp)).trans (Keeps.set _ g _ _) (by simp)
        have hGw : Has w7 g 42 cs := hG7
        refine ⟨rfl, _, ⟨⟨hIT.1.1.keeps hks fun hm => ?_, hO9, hIT.1.2.2.1, fun f' hf' => ?_, by rw [List.length_set]; exact hIT.1.2.2.2.2⟩, own_keeps hIT.2.1 hks fun b hb hm => ?_, hIT.2.2⟩, ((Keeps.below' B7.out.below _).trans hks (by simp [Value.ownBlock])), fun x hx => .inl hx⟩
        · have : R = g := by simpa using hm
          subst this
          exact hGw.ne hIT.1.1 (by decide) rfl
        · rcases List.mem_or_eq_of_mem_set hf' with h9 | h9
          · exact hIT.1.2.2.2.1 f' h9
          · rw [h9]
            exact ⟨(hIT.1.2.2.2.1 f (List.mem_of_getElem? HFF.out)).1, HX.out.1, HX.out.2.1, HX.out.2.2.1, or_lt HX.out.2.2.2 (or_lt hc0 HV.out.2.2.2)⟩
        · have : b = g := by simpa using hm
          subst this
          obtain ⟨ds, hd⟩ := own_row hIT.2.1 b hb
          exact hd.ne hGw (by decide) rfl)
      clear hIT hG7 hO9 t1 lT hgl hgc t0
      refine wp_region_still_tail 8 (by kernel_rfl) (by kernel_rfl) ?_
      simp only [List.take_succ_cons, List.take_zero, List.drop_succ_cons, List.drop_zero]
      change wpStill _ _ (World.drew _) (fun a' => wpList _ _ _ _ a' (World.drew _)) _ _
      generalize World.drew w7 = W8d at v4 v5 v6 v7 q4 q5 q6 q7 d0 d1 d2 d3 hld t1' hlT' hgl' HEnd ⊢
      repeat still_step
      refine wpStill_nil ?_
      go_wp2
      go_ret
      exact HEnd.out
set_option maxRecDepth 100000 in
set_option maxHeartbeats 8000000 in
theorem rput_2 (B R lab : Nat) (fs : List Fd) (fv sv : Value) (ss : List St) (c0 : Nat) (hc0 : c0 < M64) (key x : V) (hv : VOk key) (hx : VOk x) (hk : keyB key = true) (hkind : key.k = 2) (w : World) (h : IsRS w B R lab fs fv sv ss) (hB : B ≤ w.heap.size) (hlen : fs.length < 1000000) :
    Calls Try.prog 27 #[.pointer (some ⟨R, 0, none⟩), .int .u64 (c0 : Int), key.agg, x.agg] w (RPut w B R lab fv sv ss (putR2 lab fs ss c0 key x)) := by
  have HK := fun W => Lib.hid (refkey_any key W)
  simp only [hk] at HK
  have HAl := fun W hb => Lib.hid (allows_any B sv ss key.s x.k W (h.below (w' := W) hb).2.1 h.2.2.2)
  have HFi := fun W hb => Lib.hid (refFind_any B R lab fs fv sv key W (h.below (w' := W) hb).1)
  have HJ := fun W => Lib.hid (refJoin_any c0 key.l hc0 hv.2.2.2 W)
  have HW := fun W => Lib.hid (refWith_any x (c0 ||| key.l) hx.2.2.2 (or_lt hc0 hv.2.2.2) W)
  have HFl := Lib.hid (fun (W : World) (y : Nat) (hy : y < M64) => refFlows_any (c0 ||| key.l) y (or_lt hc0 hv.2.2.2) hy W)
  have HT := Lib.hid (fun (W : World) (hb : Below w.heap.size w W) => h.below (w' := W) hb)
  have HV := Lib.hid hv
  have HX := Lib.hid hx
  have HH := Lib.hid h
  have hlab := h.1.2.2.1
  have H42 : Hid (key.k = 3 → allowsB ss (key8 key.s) x.k = false → putR2 lab fs ss c0 key x = (42, fs)) := Lib.hid fun h1 h2 => by unfold putR2; rw [if_pos ⟨h1, h2⟩]
  have HN40 : Hid (¬ (key.k = 3 ∧ allowsB ss (key8 key.s) x.k = false) → placeOf fs key = none → flowsB (c0 ||| key.l) lab = false → putR2 lab fs ss c0 key x = (40, fs)) := Lib.hid fun h1 h2 h3 => by unfold putR2; rw [if_neg h1, h2]; simp [h3]
  have HN0 : Hid (¬ (key.k = 3 ∧ allowsB ss (key8 key.s) x.k = false) → placeOf fs key = none → flowsB (c0 ||| key.l) lab = true → putR2 lab fs ss c0 key x = (0, fs ++ [({ key with l := 0 }, x.with (c0 ||| key.l))])) := Lib.hid fun h1 h2 h3 => by unfold putR2; rw [if_neg h1, h2]; simp [h3]
  have HF40 : Hid (¬ (key.k = 3 ∧ allowsB ss (key8 key.s) x.k = false) → ∀ i f, placeOf fs key = some i → fs[i]? = some f → flowsB (c0 ||| key.l) f.2.l = false → putR2 lab fs ss c0 key x = (40, fs)) := Lib.hid fun h1 i f h2 h3 h4 => by unfold putR2; rw [if_neg h1, h2]; simp [h3, h4]
  have HF0 : Hid (¬ (key.k = 3 ∧ allowsB ss (key8 key.s) x.k = false) → ∀ i f, placeOf fs key = some i → fs[i]? = some f → flowsB (c0 ||| key.l) f.2.l = true → putR2 lab fs ss c0 key x = (0, fs.set i (f.1, x.with (c0 ||| key.l)))) := Lib.hid fun h1 i f h2 h3 h4 => by unfold putR2; rw [if_neg h1, h2]; simp [h3, h4]
  obtain ⟨r, hr⟩ : ∃ r, putR2 lab fs ss c0 key x = r := ⟨_, rfl⟩
  rw [hr] at H42 HN40 HN0 HF40 HF0 ⊢
  obtain ⟨al, hal⟩ : ∃ b, allowsB ss (key8 key.s) x.k = b := ⟨_, rfl⟩
  rw [hal] at H42 HN40 HN0 HF40 HF0
  simp only [hal] at HAl
  have hpl : refPlace fs key = match placeOf fs key with | some i => (i : Int) | none => -1 := by unfold refPlace; rw [if_pos hk]; cases placeOf fs key <;> rfl
  simp only [hpl] at HFi
  obtain ⟨pl, hplo⟩ : ∃ p, placeOf fs key = p := ⟨_, rfl⟩
  simp only [hplo] at HFi
  have HPL := Lib.hid hplo
  clear hpl hk hr hal h hv hx hplo
  obtain ⟨vk, vn, vs, vl⟩ := key
  obtain ⟨xk, xn, xs, xl⟩ := x
  simp only [V.agg, V.with] at HK HAl HFi HJ HW HFl H42 HN40 HN0 HF40 HF0 ⊢
  simp only at hkind
  subst hkind
  have BX := Lib.hid (Bx.start w [.int .i64 2, .int .i64 vn, .string vs, .int .u64 (vl : Int)] [.int .i64 xk, .int .i64 xn, .string xs, .int .u64 (xl : Int)])
  go_enter Try.func27, Try.ntmps27
  go_wp2_with fail
  with_reducible refine ((HK _).out).mono ?_
  rintro e w1 ⟨rfl, hb1⟩
  have B1 := Lib.hid (BX.out.call hb1)
  have k0 := B1.out.kb.cell 0
  have k2 := B1.out.kb.cell 2
  have lk := B1.out.kb.lt
  have x0 := B1.out.xb.cell 0
  have lx := B1.out.xb.lt
  have t2 := (HT.out _ B1.out.below).1.1.cell 2
  have lT := (HT.out _ B1.out.below).1.1.lt
  simp only [List.getElem?_cons_zero, List.getElem?_cons_succ] at k0 k2 x0 t2
  clear hb1 BX
  go_wp2
  go_quiet (fail)
  have B3 := Lib.hid (B1.out.drewN nq)
  clear B1 k0 k2 x0 t2 lk lx lT
  generalize World.drewN w1 nq = w3 at B3 ⊢
  have k3 := B3.out.kb.cell 3
  have lk := B3.out.kb.lt
  have x0 := B3.out.xb.cell 0
  have x1 := B3.out.xb.cell 1
  have x2 := B3.out.xb.cell 2
  have x3 := B3.out.xb.cell 3
  have lx := B3.out.xb.lt
  simp only [List.getElem?_cons_zero, List.getElem?_cons_succ] at k3 x0 x1 x2 x3
  have HA1 : Hid (¬ ((2 : Int) = 3 ∧ al = false)) := Lib.hid (by simp)
  go_wp2_with fail
  refine ((HJ _).out).mono ?_
  rintro e w4 ⟨rfl, hw⟩
  subst hw
  go_wp2_with fail
  refine ((HW _).out).mono ?_
  rintro e w5 ⟨rfl, hb5⟩
  have B5 := Lib.hid (B3.out.call hb5)
  have B6 := Lib.hid (B5.out.x4 (.int .i64 xk) (.int .i64 xn) (.string xs) (.int .u64 ((xl ||| (c0 ||| vl) : Nat) : Int)))
  clear hb5 B3 k3 lk x0 x1 x2 x3 lx
  have k0 := B5.out.kb.cell 0
  have k1 := B5.out.kb.cell 1
  have k2 := B5.out.kb.cell 2
  have k3 := B5.out.kb.cell 3
  have lk := B5.out.kb.lt
  have x0 := B5.out.xb.cell 0
  have x1 := B5.out.xb.cell 1
  have x2 := B5.out.xb.cell 2
  have x3 := B5.out.xb.cell 3
  have lx := B5.out.xb.lt
  have q0 := B5.out.xb.frozen 0
  have q1 := B5.out.xb.frozen 1
  have q2 := B5.out.xb.frozen 2
  have q3 := B5.out.xb.frozen 3
  simp only [List.getElem?_cons_zero, List.getElem?_cons_succ] at k0 k1 k2 k3 x0 x1 x2 x3
  go_wp2_with fail
  clear k0 k1 k2 k3 lk x0 x1 x2 x3 lx q0 q1 q2 q3 B5
  generalize World.setCell _ ⟨_, 3, none⟩ _ = W6 at B6 ⊢
  refine ((HFi _ B6.out.below).out).mono ?_
  rintro e w7 ⟨rfl, hb7⟩
  have B7 := Lib.hid (B6.out.call hb7)
  clear hb7 B6
  have t0 := (HT.out _ B7.out.below).1.1.cell 0
  have t1 := (HT.out _ B7.out.below).1.1.cell 1
  have lT := (HT.out _ B7.out.below).1.1.lt
  simp only [List.getElem?_cons_zero, List.getElem?_cons_succ] at t0 t1
  cases pl with
  | none =>
    obtain ⟨fl, hfl⟩ : ∃ b, flowsB (c0 ||| vl) lab = b := ⟨_, rfl⟩
    have F7 := fun W => Lib.hid (HFl.out W lab hlab)
    rw [hfl] at F7 HN40 HN0
    clear hfl
    go_wp2_with fail
    refine ((F7 _).out).mono ?_
    rintro e w8 ⟨rfl, hw⟩
    subst hw
    cases fl
    · have hr := HN40.out HA1.out HPL.out rfl
      subst hr
      go_wp2
      go_ret
      exact RPut.out HH.out B7.out.below
    · have hr := HN0.out HA1.out HPL.out rfl
      subst hr
      have B8 := Lib.hid (B7.out.k3 (.int .u64 0))
      have k3 := B7.out.kb.cell 3
      have q3 := B7.out.kb.frozen 3
      have lk := B7.out.kb.lt
      simp only [List.getElem?_cons_zero, List.getElem?_cons_succ] at k3
      clear t0 t1 lT
      go_wp2
      clear k3 q3 lk B7
      generalize World.setCell w7 _ _ = W8 at B8 ⊢
      have hI8 := HT.out _ B8.out.below
      have hlen' := hI8.1.2.2.2.2
      obtain ⟨g', cap', w11, hrun, a0, a1, a2, hT11, hO11, hkp11, hg11⟩ := app_R B R fs ⟨2, vn, vs, 0⟩ ⟨xk, xn, xs, xl ||| (c0 ||| vl)⟩ fv _ _ hlen' W8 (Nat.le_trans hB B8.out.below.size) hI8.1.1 hI8.1.2.1
      have hsv : w11.heap.size = w11.heap.size := rfl
      have HEnd : Hid (RPut w B R lab fv sv ss (0, fs ++ [(⟨2, vn, vs, 0⟩, ⟨xk, xn, xs, xl ||| (c0 ||| vl)⟩)]) (.returned (.int .i64 0)) (w11.setCell ⟨R, 1, none⟩ (.slice (some ⟨g', 0, none⟩) (fs.length + 1) cap'))) := Lib.hid (by
        refine ⟨rfl, _, ⟨⟨hT11, hO11, hI8.1.2.2.1, fun f hf => ?_, by simp; omega⟩, own_keeps hI8.2.1 hkp11 fun b hb hm => ?_, hI8.2.2⟩, ((Keeps.below' B8.out.below _).trans hkp11 fun x hx => .inl hx), fun x hx => ?_⟩
        · rcases List.mem_append.1 hf with h9 | h9
          · exact hI8.1.2.2.2.1 f h9
          · have : f = (⟨2, vn, vs, 0⟩, ⟨xk, xn, xs, xl ||| (c0 ||| vl)⟩) := by simpa using h9
            subst this
            exact ⟨⟨HV.out.1, HV.out.2.1, HV.out.2.2.1, (by decide : (0 : Nat) < M64)⟩, ⟨HX.out.1, HX.out.2.1, HX.out.2.2.1, or_lt HX.out.2.2.2 (or_lt hc0 HV.out.2.2.2)⟩⟩
        · obtain ⟨cs, hc⟩ := own_row hI8.2.1 b hb
          rcases List.mem_cons.1 hm with rfl | hm
          · exact hc.ne hI8.1.1 (by decide) rfl
          · obtain ⟨ds, hd⟩ := own_row hI8.1.2.1 b (by simpa using hm)
            exact hc.ne hd (by decide) rfl
        · have : x = g' := by simpa [Value.ownBlock, eq_comm] using hx
          subst this
          rcases hg11 with h9 | h9
          · exact .inl h9
          · have := B8.out.below.size
            exact .inr (by omega))
      have c0' := hI8.1.1.cell 1
      have hlR := hI8.1.1.lt
      have e0 := B8.out.kb.cell 0
      have e1 := B8.out.kb.cell 1
      have e2 := B8.out.kb.cell 2
      have e3 := B8.out.kb.cell 3
      have hle := B8.out.kb.lt
      have d0 := B8.out.xb.cell 0
      have d1 := B8.out.xb.cell 1
      have d2 := B8.out.xb.cell 2
      have d3 := B8.out.xb.cell 3
      have hld := B8.out.xb.lt
      simp only [List.getElem?_cons_zero, List.getElem?_cons_succ] at c0' e0 e1 e2 e3 d0 d1 d2 d3
      simp only [fcells, V.cells, List.cons_append, List.nil_append] at hrun
      clear hT11 hO11 hkp11 hg11 hI8 hsv
      go_region_law (refine step_append_own rfl (.tmp 53) (.tmp 57) 30 rfl _ _ _ _ rfl rfl hrun ?_)
      all_goals
        clear hrun
        go_wp2
        go_ret
        exact HEnd.out
  | some i =>
    obtain ⟨f, hf, -⟩ := placeOf_some HPL.out
    have hI7 := HT.out _ B7.out.below
    have hfo := hI7.1.2.2.2.1 f (List.mem_of_getElem? hf)
    have hi : i < fs.length := (List.getElem?_eq_some_iff.1 hf).1
    have HFF := Lib.hid hf
    obtain ⟨lbl, hlbl⟩ : ∃ l, f.2.l = l := ⟨_, rfl⟩
    have hvf := hfo.2.2.2.2
    have HRow : Hid ((rowF fs)[i * 8 + 7]? = some (.int .u64 (lbl : Int))) := Lib.hid (by rw [rowF_at fs i f hf 7 (by omega), ← hlbl]; rfl)
    obtain ⟨g, cap, hfv, hgl, hgc⟩ : ∃ g cap, fv = .slice (some ⟨g, 0, none⟩) fs.length cap ∧ g < w7.heap.size ∧ w7.cell? ⟨g, i * 8 + 7, none⟩ = some (.int .u64 (lbl : Int)) := by
      have hO := hI7.1.2.1
      rcases own_shape hO with ⟨_, h9, _⟩ | ⟨g, cap, cs, hfv, _, hh, _⟩
      · omega
      · rw [hfv] at hO
        obtain ⟨hj, hv7⟩ := List.getElem?_eq_some_iff.1 HRow.out
        exact ⟨g, cap, hfv, hh.lt, by rw [own_cell hO _ hj, hv7]⟩
    subst hfv
    obtain ⟨fl, hfl⟩ : ∃ b, flowsB (c0 ||| vl) lbl = b := ⟨_, rfl⟩
    have F7 := fun W => Lib.hid (HFl.out W lbl (by rw [← hlbl]; exact hvf))
    rw [hfl] at F7
    have HL0 := Lib.hid (fun h1 => HF40.out HA1.out i f HPL.out hf (h1 : flowsB (c0 ||| vl) f.2.l = false))
    have HL1 := Lib.hid (fun h1 => HF0.out HA1.out i f HPL.out hf (h1 : flowsB (c0 ||| vl) f.2.l = true))
    rw [hlbl, hfl] at HL0 HL1
    have hi1 : (i : Int) < (fs.length : Int) := by omega
    have hi0 : (0 : Int) ≤ (i : Int) := by omega
    have hin : ¬ (i : Int) < 0 := by omega
    clear hI7 hfo hf hlbl hvf hfl HN40 HN0
    go_wp2_with fail
    refine ((F7 _).out).mono ?_
    rintro e w8 ⟨rfl, hw⟩
    subst hw
    cases fl
    · have hr := HL0.out rfl
      subst hr
      go_wp2
      go_ret
      exact RPut.out HH.out B7.out.below
    · have hr := HL1.out rfl
      subst hr
      go_wp2
      have hIT := HT.out _ B7.out.below
      obtain ⟨cs, hG7, hBg, hjl, hO9⟩ := own_val ⟨xk, xn, xs, xl ||| (c0 ||| vl)⟩ hIT.1.2.1.drew HFF.out
      have v4 := (hG7.cell (i * 8 + 4)).trans (List.getElem?_eq_getElem (by omega))
      have v5 := (hG7.cell (i * 8 + 5)).trans (List.getElem?_eq_getElem (by omega))
      have v6 := (hG7.cell (i * 8 + 6)).trans (List.getElem?_eq_getElem (by omega))
      have v7 := (hG7.cell (i * 8 + 7)).trans (List.getElem?_eq_getElem hjl)
      have q4 := hG7.frozen (i * 8 + 4)
      have q5 := hG7.frozen (i * 8 + 5)
      have q6 := hG7.frozen (i * 8 + 6)
      have q7 := hG7.frozen (i * 8 + 7)
      have d0 := B7.out.drew.xb.cell 0
      have d1 := B7.out.drew.xb.cell 1
      have d2 := B7.out.drew.xb.cell 2
      have d3 := B7.out.drew.xb.cell 3
      simp only [List.getElem?_cons_zero, List.getElem?_cons_succ] at d0 d1 d2 d3
      have hld := B7.out.drew.xb.lt
      have t1' : w7.drew.cell? ⟨R, 1, none⟩ = _ := t1
      have hlT' : R < w7.drew.heap.size := lT
      have hgl' : g < w7.drew.heap.size := hgl
      have HEnd : Hid (RPut w B R lab (.slice (some ⟨g, 0, none⟩) fs.length cap) sv ss (0, fs.set i (f.1, ⟨xk, xn, xs, xl ||| (c0 ||| vl)⟩)) (.returned (.int .i64 0)) ((((w7.drew.setCell ⟨g, i * 8 + 4, none⟩ (.int .i64 xk)).setCell ⟨g, i * 8 + 5, none⟩ (.int .i64 xn)).setCell ⟨g, i * 8 + 6, none⟩ (.string xs)).setCell ⟨g, i * 8 + 7, none⟩ (.int .u64 ((xl ||| (c0 ||| vl) : Nat) : Int)))) := Lib.hid (by
        have hks : Keeps [g] w7 ((((w7.drew.setCell ⟨g, i * 8 + 4, none⟩ (.int .i64 xk)).setCell ⟨g, i * 8 + 5, none⟩ (.int .i64 xn)).setCell ⟨g, i * 8 + 6, none⟩ (.string xs)).setCell ⟨g, i * 8 + 7, none⟩ (.int .u64 ((xl ||| (c0 ||| vl) : Nat) : Int))) := ((((Keeps.drew [g] w7).trans (Keeps.set _ g _ _) (by simp)).trans (Keeps.set _ g _ _) (by simp)).trans (Keeps.set _ g _ _) (by simp)).trans (Keeps.set _ g _ _) (by simp)
        have hGw : Has w7 g 42 cs := hG7
        refine ⟨rfl, _, ⟨⟨hIT.1.1.keeps hks fun hm => ?_, hO9, hIT.1.2.2.1, fun f' hf' => ?_, by rw [List.length_set]; exact hIT.1.2.2.2.2⟩, own_keeps hIT.2.1 hks fun b hb hm => ?_, hIT.2.2⟩, ((Keeps.below' B7.out.below _).trans hks (by simp [Value.ownBlock])), fun x hx => .inl hx⟩
        · have : R = g := by simpa using hm
          subst this
          exact hGw.ne hIT.1.1 (by decide) rfl
        · rcases List.mem_or_eq_of_mem_set hf' with h9 | h9
          · exact hIT.1.2.2.2.1 f' h9
          · rw [h9]
            exact ⟨(hIT.1.2.2.2.1 f (List.mem_of_getElem? HFF.out)).1, HX.out.1, HX.out.2.1, HX.out.2.2.1, or_lt HX.out.2.2.2 (or_lt hc0 HV.out.2.2.2)⟩
        · have : b = g := by simpa using hm
          subst this
          obtain ⟨ds, hd⟩ := own_row hIT.2.1 b hb
          exact hd.ne hGw (by decide) rfl)
      clear hIT hG7 hO9 t1 lT hgl hgc t0
      refine wp_region_still_tail 8 (by kernel_rfl) (by kernel_rfl) ?_
      simp only [List.take_succ_cons, List.take_zero, List.drop_succ_cons, List.drop_zero]
      change wpStill _ _ (World.drew _) (fun a' => wpList _ _ _ _ a' (World.drew _)) _ _
      generalize World.drew w7 = W8d at v4 v5 v6 v7 q4 q5 q6 q7 d0 d1 d2 d3 hld t1' hlT' hgl' HEnd ⊢
      repeat still_step
      refine wpStill_nil ?_
      go_wp2
      go_ret
      exact HEnd.out
theorem rput_any (B R lab : Nat) (fs : List Fd) (fv sv : Value) (ss : List St) (c0 : Nat) (hc0 : c0 < M64) (key x : V) (hv : VOk key) (hx : VOk x) (w : World) (h : IsRS w B R lab fs fv sv ss) (hB : B ≤ w.heap.size) (hlen : fs.length < 1000000) :
    Calls Try.prog 27 #[.pointer (some ⟨R, 0, none⟩), .int .u64 (c0 : Int), key.agg, x.agg] w (RPut w B R lab fv sv ss (putR lab fs ss c0 key x)) := by
  unfold putR
  cases hk : keyB key with
  | false =>
    rw [if_pos rfl]
    exact (rput_nokey R c0 key x hk w).mono fun _ _ ho => by rw [ho.1]; exact .out h ho.2
  | true =>
    rw [if_neg (by simp)]
    rcases keyB_kind hk with h2 | h3
    · exact rput_2 B R lab fs fv sv ss c0 hc0 key x hv hx hk h2 w h hB hlen
    · exact rput_3 B R lab fs fv sv ss c0 hc0 key x hv hx hk h3 w h hB hlen
end TabD
end Go.Proofs.Ytpmbbkhhnkhcbaa
