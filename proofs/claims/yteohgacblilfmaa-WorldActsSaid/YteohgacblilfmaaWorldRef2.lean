/- Writing on a channel, by definition. -/
import Derived.Test.YteohgacblilfmaaWorldRef
namespace Go.Proofs.Yteohgacblilfmaa
open Go.RowKit ObjM Shell Go.ChangeShapes Go.WideShapes
namespace WorldD
open LabelM LabelD TraceD

set_option maxRecDepth 100000 in
set_option maxHeartbeats 1000000 in
theorem bare_any (k kd n lab : Int) (s : ByteArray) (w : World) :
    Calls Try.prog 22 #[.agg #[.int .i64 kd, .int .i64 n, .string s, .int .u64 lab]] w fun e w' => e = .returned (valA (evOf k kd n s).k (evOf k kd n s).n 0 (evOf k kd n s).s) ∧ Below w.heap.size w w' := by
  have hA : ∀ o p q : Go.Obj, Below w.heap.size w (((w.alloc o).alloc p).alloc q) := fun o p q => (((Below.refl _ w).alloc (Nat.le_refl _) o).alloc (by simp) p).alloc (by simp; omega) q
  have hcase : (kd = 1 ∧ evOf k kd n s = ⟨k, 1, n, ⟨#[]⟩⟩) ∨ (kd = 2 ∧ evOf k kd n s = ⟨k, 2, n, ⟨#[]⟩⟩) ∨ (kd = 3 ∧ evOf k kd n s = ⟨k, 3, 0, s⟩) ∨ ((kd == 1) = false ∧ (kd == 2) = false ∧ (kd == 3) = false ∧ evOf k kd n s = ⟨k, kd, 0, ⟨#[]⟩⟩) := by
    by_cases h1 : kd = 1
    · exact .inl ⟨h1, by subst h1; rfl⟩
    · by_cases h2 : kd = 2
      · exact .inr (.inl ⟨h2, by subst h2; rfl⟩)
      · by_cases h3 : kd = 3
        · exact .inr (.inr (.inl ⟨h3, by subst h3; rfl⟩))
        · exact .inr (.inr (.inr ⟨by simpa using h1, by simpa using h2, by simpa using h3, by simp [evOf, h1, h2, h3]⟩))
  rcases hcase with ⟨rfl, he⟩ | ⟨rfl, he⟩ | ⟨rfl, he⟩ | ⟨h1, h2, h3, he⟩
  · rw [he]
    clear he
    go_enter Try.func22, Try.ntmps22
    go_wp2
    refine bodyPost_ret (v := valA 1 n 0 ⟨#[]⟩) (by simp [results, Try.results22, go_sem, valA]) rfl ⟨rfl, ?_⟩
    repeat (first | exact hA _ _ _ | refine Below.setCell ?_ (by simp) _)
  · rw [he]
    clear he
    go_enter Try.func22, Try.ntmps22
    go_wp2
    refine bodyPost_ret (v := valA 2 n 0 ⟨#[]⟩) (by simp [results, Try.results22, go_sem, valA]) rfl ⟨rfl, ?_⟩
    repeat (first | exact hA _ _ _ | refine Below.setCell ?_ (by simp) _)
  · rw [he]
    clear he
    go_enter Try.func22, Try.ntmps22
    go_wp2
    refine bodyPost_ret (v := valA 3 0 0 s) (by simp [results, Try.results22, go_sem, valA]) rfl ⟨rfl, ?_⟩
    repeat (first | exact hA _ _ _ | refine Below.setCell ?_ (by simp) _)
  · rw [he]
    clear he
    go_enter Try.func22, Try.ntmps22
    go_wp2
    refine bodyPost_ret (v := valA kd 0 0 ⟨#[]⟩) (by simp [results, Try.results22, go_sem, valA]) rfl ⟨rfl, ?_⟩
    repeat (first | exact hA _ _ _ | refine Below.setCell ?_ (by simp) _)

set_option maxRecDepth 100000 in
set_option maxHeartbeats 1000000 in
theorem refWrite_out (p : Addr) (pc : Int) (k : Int) (hk : k < 0 ∨ 8 ≤ k) (kd n lab : Int) (s : ByteArray) (w : World) : Calls Try.prog 12 #[.pointer (some p), .int .u64 pc, .int .i64 k, .agg #[.int .i64 kd, .int .i64 n, .string s, .int .u64 lab]] w (WriteOut w 1) := by
  rcases (show (k < 0) ∨ (¬ k < 0 ∧ (7 : Int) < k) by omega) with h | ⟨h, h7⟩
  all_goals
    clear hk
    go_enter Try.func12, Try.ntmps12
    go_wp2
    go_ret
    exact ⟨rfl, (Below.refl _ _).alloc (Nat.le_refl _) _⟩
set_option maxRecDepth 100000 in
set_option maxHeartbeats 1000000 in
theorem refWrite_no (R : Nat) (l : List Ch) (hl : l.length = 8) (sv : Value) (pc k lab : Nat) (hpc : pc < M64) (hlab : lab < M64) (c : Ch) (hc : l[k]? = some c) (hk : k < 8) (hm : c.m < M64) (hfl : flowsB (pc ||| lab) c.m = false) (kd n : Int) (s : ByteArray) (w : World) (hG : Has w R 37 (refCells l sv)) :
    Calls Try.prog 12 #[.pointer (some ⟨R, 0, none⟩), .int .u64 (pc : Int), .int .i64 (k : Int), .agg #[.int .i64 kd, .int .i64 n, .string s, .int .u64 (lab : Int)]] w (WriteOut w 40) := by
  obtain ⟨c0, c1, c2⟩ := IsR.cells hl hG hc
  have hlt := hG.lt
  have hk8i : (k : Int) < 8 := by omega
  have hk7 : ¬ (7 : Int) < (k : Int) := by omega
  have hk0 : ¬ (k : Int) < 0 := by omega
  have hk0i : (0 : Int) ≤ (k : Int) := by omega
  have HJ := fun W => Lib.hid (refJoin_any pc lab hpc hlab W)
  have HF := fun W => Lib.hid (refFlows_any (pc ||| lab) c.m (or_lt hpc hlab) hm W)
  rw [hfl] at HF
  obtain ⟨m, v, xs, nn⟩ := c
  simp only at c0 c1 c2 HF
  clear hG hc hm hfl c1 c2
  go_enter Try.func12, Try.ntmps12
  go_wp2
  go_quiet ((first | (go_at_call 21; with_reducible exact quiet_left (HJ _).out) | (go_at_call 16; with_reducible exact quiet_left (HF _).out)))
  go_wp2
  go_ret
  exact ⟨rfl, below_drewN ((Below.refl _ _).alloc (Nat.le_refl _) _) nq⟩
/-- The append of an event, by definition. -/
theorem app_R (B G : Nat) (l : List Ch) (ev : List Ev) (x : Ev) (sv : Value) (hn : ev.length ≤ 2600000000000) (w : World) (hBw : B ≤ w.heap.size) (hG : Has w G 37 (refCells l sv)) (hO : w.ownsRow B 65 4 sv ev.length (rowE ev)) (hBG : B ≤ G) (hl : l.length = 8) (hc : ∀ c ∈ l, c.m < M64 ∧ c.n ≤ c.xs.length ∧ c.xs.length ≤ 17592186044416) :
    ∃ g' cap' w1, (Builtin.append_ #[35, 35] 35 #[sv, .slice (some ⟨w.heap.size, 0, none⟩) 1 1]).run Try.prog ((w.alloc (.cells x.cells.toArray 65)).drew) = .ok (.slice (some ⟨g', 0, none⟩) (ev.length + 1) cap') w1 ∧
      w1.cell? ⟨G, 24, none⟩ = some sv ∧ w1.frozen? ⟨G, 24, none⟩ = false ∧ G < w1.heap.size ∧
      IsR (w1.setCell ⟨G, 24, none⟩ (.slice (some ⟨g', 0, none⟩) (ev.length + 1) cap')) B G l (ev ++ [x]) ∧
      KeepsT [37, 65] w (w1.setCell ⟨G, 24, none⟩ (.slice (some ⟨g', 0, none⟩) (ev.length + 1) cap')) ∧ Below B w (w1.setCell ⟨G, 24, none⟩ (.slice (some ⟨g', 0, none⟩) (ev.length + 1) cap')) := by
  obtain ⟨i0, hi, hz0, hz1, hz2⟩ := info_parts infoEv
  have hown1 : ((w.alloc (.cells x.cells.toArray 65)).drew).ownsRow B 65 4 sv ev.length (rowE ev) := (hO.alloc _).drew
  have hnew := (Has.new w 65 x.cells).drew
  obtain ⟨v', w1, hrun, hown', hgrow, -⟩ := run_append_own (P := Try.prog) (w := (w.alloc (.cells x.cells.toArray 65)).drew) B 35 35 65 i0 (.agg #[.int .i64 0, .int .i64 0, .int .i64 0, .string ⟨#[]⟩]) 4 40 Try.underlying35 hi hz0 hz1 hz2 rfl (by decide) sv ev.length (rowE ev) hown1 ⟨w.heap.size, 0, none⟩ 1 1 x.cells rfl (by
    intro k u hu
    rw [addr_add, Nat.zero_add, hnew.cell]
    exact hu) (by simp [Ev.cells, Value.oneCell']) (by unfold maxLen; omega) (by omega) (by simp; omega)
  obtain ⟨g', cap', rfl⟩ := ownsRow_succ hown'
  have hk1 : KeepsT [65] w w1 := (((KeepsT.refl _ w).alloc _).drew).grown hgrow (fun g hg => .inr (by
    obtain ⟨cs, hc⟩ := own_row hown1 g hg
    exact ⟨_, cs, hc, by simp⟩))
  have hb1 : Below B w w1 := (((Below.refl B w).alloc (by omega) _).drew).grown hgrow (by simp; omega) (fun g hg => (own_lt hown1 g hg).1)
  have hG1 : Has w1 G 37 (refCells l sv) := hG.keepsT hk1 (by decide)
  have hk2 := (hk1.mono (ts := [37, 65]) (by simp)).set hG1 (.inl (by simp)) 24 (.slice (some ⟨g', 0, none⟩) (ev.length + 1) cap')
  refine ⟨g', cap', w1, hrun, (hG1.cell 24).trans (refCells_sv hl), hG1.frozen 24, hG1.lt, ⟨.slice (some ⟨g', 0, none⟩) (ev.length + 1) cap', ?_, ?_, hBG, hl, hc⟩, hk2, hb1.setCell (p := ⟨G, 24, none⟩) hBG _⟩
  · have h := hG1.set 24 (.slice (some ⟨g', 0, none⟩) (ev.length + 1) cap')
    rw [refCells_setV hl] at h
    exact h
  · rw [rowE_snoc, List.length_append]
    exact own_keeps hown' (Keeps.set w1 G 24 _) (fun g hg => by
      have := own_ne hown' hG1 (by decide) g hg
      simpa using this)
def RWriteDid (w : World) (B G : Nat) (l : List Ch) (ev : List Ev) (e : Ending) (w' : World) : Prop :=
  e = .returned (.int .i64 0) ∧ IsR w' B G l ev ∧ KeepsT [37, 65] w w' ∧ Below B w w'
set_option maxRecDepth 100000 in
set_option maxHeartbeats 4000000 in
theorem refWrite_ok (B R : Nat) (l : List Ch) (ev : List Ev) (hev : ev.length ≤ 2600000000000) (pc k lab : Nat) (hpc : pc < M64) (hlab : lab < M64) (c : Ch) (hc : l[k]? = some c) (hk : k < 8) (hfl : flowsB (pc ||| lab) c.m = true) (kd n : Int) (s : ByteArray) (w : World) (hBw : B ≤ w.heap.size) (hI : IsR w B R l ev) :
    Calls Try.prog 12 #[.pointer (some ⟨R, 0, none⟩), .int .u64 (pc : Int), .int .i64 (k : Int), .agg #[.int .i64 kd, .int .i64 n, .string s, .int .u64 (lab : Int)]] w (RWriteDid w B R l (ev ++ [evOf k kd n s])) := by
  have HI := Lib.hid hI
  obtain ⟨sv, hG, hO, hBR, hl8, hok⟩ := hI
  have hm := (hok c (List.mem_of_getElem? hc)).1
  obtain ⟨c0, c1, c2⟩ := IsR.cells hl8 hG hc
  have hlt := hG.lt
  have hk8i : (k : Int) < 8 := by omega
  have hk7 : ¬ (7 : Int) < (k : Int) := by omega
  have hk0 : ¬ (k : Int) < 0 := by omega
  have hk0i : (0 : Int) ≤ (k : Int) := by omega
  have HJ := fun W => Lib.hid (refJoin_any pc lab hpc hlab W)
  have HF := fun W => Lib.hid (refFlows_any (pc ||| lab) c.m (or_lt hpc hlab) hm W)
  rw [hfl] at HF
  have HBr := fun W => Lib.hid (bare_any k kd n lab s W)
  obtain ⟨⟨y0, y1, y2, y3⟩, hy⟩ : ∃ y, evOf k kd n s = y := ⟨_, rfl⟩
  have hy0 : y0 = k := by
    have := congrArg Ev.ch hy
    exact this.symm
  subst hy0
  rw [hy] at HBr ⊢
  simp only [valA] at HBr
  obtain ⟨m, v, xs, nn⟩ := c
  simp only at c0 c1 c2 HF
  have HK1 := Lib.hid (((KeepsT.refl [] w).alloc (.cells #[.int .i64 kd, .int .i64 n, .string s, .int .u64 (lab : Int)] 39)))
  have HB1 := Lib.hid (((Below.refl B w).alloc hBw (.cells #[.int .i64 kd, .int .i64 n, .string s, .int .u64 (lab : Int)] 39)))
  have HBx := Lib.hid (Has.new w 39 [.int .i64 kd, .int .i64 n, .string s, .int .u64 (lab : Int)])
  clear hG hO hok hc hm hfl c1 c2 hy
  go_enter Try.func12, Try.ntmps12
  go_wp2
  go_quiet ((first | (go_at_call 21; with_reducible exact quiet_left (HJ _).out) | (go_at_call 16; with_reducible exact quiet_left (HF _).out)))
  have K2 := Lib.hid (HK1.out.drewN nq)
  have B2 := Lib.hid (below_drewN HB1.out nq)
  have X2 := HBx.out.keepsT ((KeepsT.refl [] _).drewN nq) (by simp)
  clear HK1 HB1 HBx c0 hlt
  generalize World.drewN _ nq = w2 at K2 B2 X2 ⊢
  have x0 := X2.cell 0
  have x1 := X2.cell 1
  have x2 := X2.cell 2
  have x3 := X2.cell 3
  have hlx := X2.lt
  simp at x0 x1 x2 x3
  clear X2
  go_wp2_with fail
  refine ((HBr _).out).mono ?_
  rintro e w3 ⟨rfl, hb3⟩
  have K3 := Lib.hid (K2.out.trans (KeepsT.below hb3 []) (by simp))
  have B3 := Lib.hid (B2.out.trans (hb3.mono (Nat.le_trans hBw (K2.out.size))))
  clear x0 x1 x2 x3 hlx hb3 K2 B2
  go_wp2
  have k5 := Lib.hid (K3.out.alloc (.cells #[.int .i64 y1, .int .i64 y2, .string y3, .int .u64 0] 39))
  have b5 := Lib.hid (B3.out.alloc (Nat.le_trans hBw K3.out.size) (.cells #[.int .i64 y1, .int .i64 y2, .string y3, .int .u64 0] 39))
  have hx5 := Has.new w3 39 [.int .i64 y1, .int .i64 y2, .string y3, .int .u64 0]
  clear K3 B3
  change Code.wp _ _ _ _ (World.alloc w3 _)
  generalize World.alloc w3 _ = W5 at k5 b5 hx5 ⊢
  have e0 := hx5.cell 0
  have e1 := hx5.cell 1
  have e2 := hx5.cell 2
  have hle := hx5.lt
  simp at e0 e1 e2
  obtain ⟨sv, hG5, hO5, hBR, hl8', hok⟩ := HI.out.keeps k5.out (by simp) (by simp)
  have hl5 := hG5.lt
  obtain ⟨g', cap', w6, hrun, a0, a1, a2, hI6, hk6, hb6⟩ := app_R B R l ev ⟨k, y1, y2, y3⟩ sv hev W5 (Nat.le_trans hBw k5.out.size) hG5 hO5 hBR hl8 hok
  simp only [Ev.cells] at hrun
  have d24 := (hG5.cell 24).trans (refCells_sv hl8)
  obtain ⟨av, cp, rfl⟩ := own_slice hO5
  have HI6 := Lib.hid hI6
  have HK6 := Lib.hid ((k5.out.mono (by simp)).trans hk6 (fun _ h => h))
  have HB6 := Lib.hid (b5.out.trans hb6)
  clear hx5 hG5 hO5 hok hI6 hk6 hb6 k5 b5 HI hl8'
  go_region_law (refine step_append_own rfl (.tmp 34) (.tmp 43) 35 rfl _ _ _ _ rfl rfl hrun ?_)
  all_goals
    clear hrun
    go_wp2
    go_ret
    exact ⟨rfl, HI6.out, HK6.out, HB6.out⟩
end WorldD
end Go.Proofs.Yteohgacblilfmaa
