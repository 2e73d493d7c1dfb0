/- Writing on a channel. -/
import Derived.Test.YteohgacblilfmaaWorld3
namespace Go.Proofs.Yteohgacblilfmaa
open Go.RowKit ObjM Shell
namespace WorldD
open LabelM LabelD TraceD

theorem join2c (a b : Nat) (ha : a < M64) (hb : b < M64) (w : World) (n : Nat) (c0 : w.cell? ⟨n, 0, none⟩ = some (.int .u64 a)) (c1 : w.cell? ⟨n, 1, none⟩ = some (.int .u64 b)) :
    Calls Try.prog 20 #[.slice (some ⟨n, 0, none⟩) 2 2] w fun e w' => e = .returned (.int .u64 ((a ||| b : Nat) : Int)) ∧ w = w' := by
  have h := join_any n 0 2 [a, b] (by intro x hx; simp at hx; rcases hx with rfl | rfl <;> assumption) (by simp) w (by
    intro j x hx
    match j, hx with
    | 0, hx => simp at hx; subst hx; exact c0
    | 1, hx => simp at hx; subst hx; exact c1)
  rw [show joinL [a, b] = a ||| b by simp [joinL]] at h
  exact h
/-- Two labels in a new row, a draw behind. -/
theorem join2e (a b : Nat) (ha : a < M64) (hb : b < M64) (w : World) :
    Calls Try.prog 20 #[.slice (some ⟨w.heap.size, 0, none⟩) 2 2] (w.alloc (.cells #[.int .u64 a, .int .u64 b] 23)).drew fun e w' => e = .returned (.int .u64 ((a ||| b : Nat) : Int)) ∧ (w.alloc (.cells #[.int .u64 a, .int .u64 b] 23)).drew = w' := by
  have h := (Has.new w 23 [.int .u64 (a : Int), .int .u64 (b : Int)]).drew
  have h0 := h.cell 0
  have h1 := h.cell 1
  exact join2c a b ha hb _ _ h0 h1
def WriteOut (w : World) (err : Int) (e : Ending) (w' : World) : Prop := e = .returned (.int .i64 err) ∧ Below w.heap.size w w'

set_option maxRecDepth 100000 in
set_option maxHeartbeats 1000000 in
theorem write_nil (pc : Int) (k : Int) (kd n lab : Int) (s : ByteArray) (w : World) : Calls Try.prog 11 #[.pointer none, .int .u64 pc, .int .i64 k, .agg #[.int .i64 kd, .int .i64 n, .string s, .int .u64 lab]] w (WriteOut w 1) := by
  have H := fun W => Lib.hid (has_nil k W)
  go_enter Try.func11, Try.ntmps11
  go_wp2_with fail
  with_reducible refine ((H _).out).mono ?_
  rintro e w1 ⟨rfl, hw⟩
  subst hw
  go_wp2
  go_ret
  exact ⟨rfl, (Below.refl _ _).alloc (Nat.le_refl _) _⟩
set_option maxRecDepth 100000 in
set_option maxHeartbeats 1000000 in
theorem write_out (p : Addr) (pc : Int) (k : Int) (hk : k < 0 ∨ 8 ≤ k) (kd n lab : Int) (s : ByteArray) (w : World) : Calls Try.prog 11 #[.pointer (some p), .int .u64 pc, .int .i64 k, .agg #[.int .i64 kd, .int .i64 n, .string s, .int .u64 lab]] w (WriteOut w 1) := by
  have H := fun W => Lib.hid (has_out p k hk W)
  clear hk
  go_enter Try.func11, Try.ntmps11
  go_wp2_with fail
  with_reducible refine ((H _).out).mono ?_
  rintro e w1 ⟨rfl, hw⟩
  subst hw
  go_wp2
  go_ret
  exact ⟨rfl, (Below.refl _ _).alloc (Nat.le_refl _) _⟩
set_option maxRecDepth 100000 in
set_option maxHeartbeats 1000000 in
theorem write_no (G : Nat) (l : List Ch) (sv : Value) (pc k lab : Nat) (hpc : pc < M64) (hlab : lab < M64) (c : Ch) (hc : l[k]? = some c) (hk : k < 8) (hm : c.m < M64) (hfl : flowsB (pc ||| lab) c.m = false) (kd n : Int) (s : ByteArray) (w : World) (hG : Has w G 60 (rowC l ++ [sv])) :
    Calls Try.prog 11 #[.pointer (some ⟨G, 0, none⟩), .int .u64 (pc : Int), .int .i64 (k : Int), .agg #[.int .i64 kd, .int .i64 n, .string s, .int .u64 (lab : Int)]] w (WriteOut w 40) := by
  obtain ⟨c0, c1, c2⟩ := IsW.cells (hG.keepsT ((KeepsT.refl [] w).alloc (.cells #[.int .i64 kd, .int .i64 n, .string s, .int .u64 (lab : Int)] 39)) (by simp)) hc
  have hlt := (hG.keepsT ((KeepsT.refl [] w).alloc (.cells #[.int .i64 kd, .int .i64 n, .string s, .int .u64 (lab : Int)] 39)) (by simp)).lt
  have hb := (Has.new w 39 [.int .i64 kd, .int .i64 n, .string s, .int .u64 (lab : Int)])
  have hB := (Below.refl w.heap.size w).alloc (Nat.le_refl _) (.cells #[.int .i64 kd, .int .i64 n, .string s, .int .u64 (lab : Int)] 39)
  have hk8i : (k : Int) < 8 := by omega
  have hk0i : (0 : Int) ≤ (k : Int) := by omega
  have H := fun W => Lib.hid (has_in ⟨G, 0, none⟩ k (by omega) hk8i W)
  have HJ := fun W => Lib.hid (join2e pc lab hpc hlab W)
  have HF := fun W => Lib.hid (flows_any (pc ||| lab) c.m (or_lt hpc hlab) hm W)
  rw [hfl] at HF
  obtain ⟨m, v, xs, nn⟩ := c
  simp only at c0 c1 c2 HF
  clear hG hc hm hfl
  go_enter Try.func11, Try.ntmps11
  go_wp2_with fail
  with_reducible refine ((H _).out).mono ?_
  rintro e w1 ⟨rfl, hw⟩
  subst hw
  go_wp2
  change Code.wp _ _ _ _ (World.alloc w _)
  generalize World.alloc w _ = W1 at c0 c1 c2 hlt hb hB ⊢
  have b3 := hb.cell 3
  have hlb := hb.lt
  simp at b3
  have HB := Lib.hid hB
  clear hb hB c1 c2
  go_region_held3 (fun W' => W'.cell? ⟨w.heap.size, 3, none⟩ = some (.int .u64 (lab : Int)) ∧ W'.cell? ⟨G, k * 3, none⟩ = some (.int .u64 (m : Int))) (first | assumption | go_keep)
    (first
      | (go_at_call 20
         with_reducible refine ((HJ _).out).mono ?_
         rintro e w5 ⟨rfl, hw⟩
         subst hw)
      | (go_at_call 19
         with_reducible refine ((HF _).out).mono ?_
         rintro e w5 ⟨rfl, hw⟩
         subst hw))
  all_goals
    go_wp2
    go_ret
    exact ⟨rfl, (HB.out.alloc HB.out.size _).drew⟩
/-- The event of a value on a channel. -/
def evOf (k kd n : Int) (s : ByteArray) : Ev := ⟨k, kd, if kd = 1 ∨ kd = 2 then n else 0, if kd = 3 then s else ⟨#[]⟩⟩
def WriteDid (w : World) (B G : Nat) (l : List Ch) (ev : List Ev) (e : Ending) (w' : World) : Prop :=
  e = .returned (.int .i64 0) ∧ IsW w' B G l ev ∧ KeepsT [60, 65] w w' ∧ Below B w w'
/-- The append of an event. -/
theorem app_W (B G : Nat) (l : List Ch) (ev : List Ev) (x : Ev) (sv : Value) (hn : ev.length ≤ 2600000000000) (w : World) (hBw : B ≤ w.heap.size) (hG : Has w G 60 (rowC l ++ [sv])) (hO : w.ownsRow B 65 4 sv ev.length (rowE ev)) (hBG : B ≤ G) (hl : l.length = 8) (hc : ∀ c ∈ l, ChOk w B c) :
    ∃ g' cap' w1, (Builtin.append_ #[35, 35] 35 #[sv, .slice (some ⟨w.heap.size, 0, none⟩) 1 1]).run Try.prog ((w.alloc (.cells x.cells.toArray 65)).drew) = .ok (.slice (some ⟨g', 0, none⟩) (ev.length + 1) cap') w1 ∧
      w1.cell? ⟨G, 24, none⟩ = some sv ∧ w1.frozen? ⟨G, 24, none⟩ = false ∧ G < w1.heap.size ∧
      IsW (w1.setCell ⟨G, 24, none⟩ (.slice (some ⟨g', 0, none⟩) (ev.length + 1) cap')) B G l (ev ++ [x]) ∧
      KeepsT [60, 65] w (w1.setCell ⟨G, 24, none⟩ (.slice (some ⟨g', 0, none⟩) (ev.length + 1) cap')) ∧ Below B w (w1.setCell ⟨G, 24, none⟩ (.slice (some ⟨g', 0, none⟩) (ev.length + 1) cap')) := by
  obtain ⟨i0, hi, hz0, hz1, hz2⟩ := info_parts infoEv
  have hown1 : ((w.alloc (.cells x.cells.toArray 65)).drew).ownsRow B 65 4 sv ev.length (rowE ev) := (hO.alloc _).drew
  have hnew := (Has.new w 65 x.cells).drew
  obtain ⟨v', w1, hrun, hown', hgrow, -⟩ := run_append_own (P := Try.prog) (w := (w.alloc (.cells x.cells.toArray 65)).drew) B 35 35 65 i0 (.agg #[.int .i64 0, .int .i64 0, .int .i64 0, .string ⟨#[]⟩]) 4 40 Try.underlying35 hi hz0 hz1 hz2 rfl (by decide) sv ev.length (rowE ev) hown1 ⟨w.heap.size, 0, none⟩ 1 1 x.cells rfl (by
    intro k u hu
    rw [addr_add, Nat.zero_add, hnew.cell]
    exact hu) (by simp [Ev.cells, Value.oneCell']) (by unfold maxLen; omega) (by omega) (by simp; omega)
  obtain ⟨g', cap', rfl⟩ := ownsRow_succ hown'
  have hk1 : KeepsT [65] w w1 := (((KeepsT.refl _ w).alloc _).drew).grown hgrow (fun g hg => .inr (by
    obtain ⟨cs, hc⟩ := own_row hown1 g hg
    exact ⟨_, cs, hc, by simp⟩))
  have hb1 : Below B w w1 := (((Below.refl B w).alloc (by omega) _).drew).grown hgrow (by simp; omega) (fun g hg => (own_lt hown1 g hg).1)
  have hG1 : Has w1 G 60 (rowC l ++ [sv]) := hG.keepsT hk1 (by decide)
  have hlen : (rowC l).length = 24 := by rw [rowC_len, hl]
  have hk2 := (hk1.mono (ts := [60, 65]) (by simp)).set hG1 (.inl (by simp)) 24 (.slice (some ⟨g', 0, none⟩) (ev.length + 1) cap')
  refine ⟨g', cap', w1, hrun, ?_, hG1.frozen 24, hG1.lt, ⟨.slice (some ⟨g', 0, none⟩) (ev.length + 1) cap', ?_, ?_, hBG, hl, fun c hm => (hc c hm).keeps hk2 (by decide)⟩, hk2, hb1.setCell (p := ⟨G, 24, none⟩) hBG _⟩
  · rw [hG1.cell, List.getElem?_append_right (by omega), hlen]
    rfl
  · have h := hG1.set 24 (.slice (some ⟨g', 0, none⟩) (ev.length + 1) cap')
    rw [List.set_append_right _ _ (by omega), hlen] at h
    exact h
  · rw [rowE_snoc, List.length_append]
    exact own_keeps hown' (Keeps.set w1 G 24 _) (fun g hg => by
      have := own_ne hown' hG1 (by decide) g hg
      simpa using this)

set_option maxRecDepth 100000 in
set_option maxHeartbeats 4000000 in
theorem write_ok (B G : Nat) (l : List Ch) (ev : List Ev) (hev : ev.length ≤ 2600000000000) (pc k lab : Nat) (hpc : pc < M64) (hlab : lab < M64) (c : Ch) (hc : l[k]? = some c) (hk : k < 8) (hfl : flowsB (pc ||| lab) c.m = true) (kd n : Int) (s : ByteArray) (w : World) (hBw : B ≤ w.heap.size) (hI : IsW w B G l ev) :
    Calls Try.prog 11 #[.pointer (some ⟨G, 0, none⟩), .int .u64 (pc : Int), .int .i64 (k : Int), .agg #[.int .i64 kd, .int .i64 n, .string s, .int .u64 (lab : Int)]] w (WriteDid w B G l (ev ++ [evOf k kd n s])) := by
  have hI' := hI
  obtain ⟨sv, hG, hO, hBG, hl8, hok⟩ := hI'
  have hm := (hok c (List.mem_of_getElem? hc)).1
  obtain ⟨c0, c1, c2⟩ := IsW.cells (hG.keepsT ((KeepsT.refl [] w).alloc (.cells #[.int .i64 kd, .int .i64 n, .string s, .int .u64 (lab : Int)] 39)) (by simp)) hc
  have hlt := (hG.keepsT ((KeepsT.refl [] w).alloc (.cells #[.int .i64 kd, .int .i64 n, .string s, .int .u64 (lab : Int)] 39)) (by simp)).lt
  have hb := (Has.new w 39 [.int .i64 kd, .int .i64 n, .string s, .int .u64 (lab : Int)])
  have hk8i : (k : Int) < 8 := by omega
  have hk0i : (0 : Int) ≤ (k : Int) := by omega
  have H := fun W => Lib.hid (has_in ⟨G, 0, none⟩ k (by omega) hk8i W)
  have HJ := fun W => Lib.hid (join2e pc lab hpc hlab W)
  have HF := fun W => Lib.hid (flows_any (pc ||| lab) c.m (or_lt hpc hlab) hm W)
  rw [hfl] at HF
  have HS := Lib.hid (show ∃ av cp, sv = .slice av ev.length cp from own_slice hO)
  have HK1 : Hid (KeepsT [] w (w.alloc (.cells #[.int .i64 kd, .int .i64 n, .string s, .int .u64 (lab : Int)] 39))) := Lib.hid ((KeepsT.refl _ w).alloc _)
  have HB1 : Hid (Below B w (w.alloc (.cells #[.int .i64 kd, .int .i64 n, .string s, .int .u64 (lab : Int)] 39))) := Lib.hid ((Below.refl _ w).alloc hBw _)
  obtain ⟨m, v, xs, nn⟩ := c
  simp only at c0 c1 c2 HF
  have HG := Lib.hid hG
  have HO := Lib.hid hO
  have HOK := Lib.hid hok
  clear hG hO hok hc hm hfl hI
  have hcase : (kd = 1 ∧ evOf k kd n s = ⟨k, 1, n, ⟨#[]⟩⟩) ∨ (kd = 2 ∧ evOf k kd n s = ⟨k, 2, n, ⟨#[]⟩⟩) ∨ (kd = 3 ∧ evOf k kd n s = ⟨k, 3, 0, s⟩) ∨ ((kd == 1) = false ∧ (kd == 2) = false ∧ (kd == 3) = false ∧ evOf k kd n s = ⟨k, kd, 0, ⟨#[]⟩⟩) := by
    by_cases h1 : kd = 1
    · exact .inl ⟨h1, by subst h1; rfl⟩
    · by_cases h2 : kd = 2
      · exact .inr (.inl ⟨h2, by subst h2; rfl⟩)
      · by_cases h3 : kd = 3
        · exact .inr (.inr (.inl ⟨h3, by subst h3; rfl⟩))
        · exact .inr (.inr (.inr ⟨by simpa using h1, by simpa using h2, by simpa using h3, by simp [evOf, h1, h2, h3]⟩))
  rcases hcase with ⟨rfl, he⟩ | ⟨rfl, he⟩ | ⟨rfl, he⟩ | ⟨h1, h2, h3, he⟩
  · rw [he]
    clear he
    go_enter Try.func11, Try.ntmps11
    go_wp2_with fail
    with_reducible refine ((H _).out).mono ?_
    rintro e w1 ⟨rfl, hw⟩
    subst hw
    go_wp2
    change Code.wp _ _ _ _ (World.alloc w _)
    generalize World.alloc w _ = W1 at c0 c1 c2 hlt hb HK1 HB1 ⊢
    have b0 := hb.cell 0
    have b1 := hb.cell 1
    have b2 := hb.cell 2
    have b3 := hb.cell 3
    have hlb := hb.lt
    simp at b0 b1 b2 b3
    clear hb c1 c2
    go_region_held3 (fun W' => W'.cell? ⟨w.heap.size, 3, none⟩ = some (.int .u64 (lab : Int)) ∧ W'.cell? ⟨G, k * 3, none⟩ = some (.int .u64 (m : Int))) (first | assumption | go_keep)
      (first
        | (go_at_call 20
           with_reducible refine ((HJ _).out).mono ?_
           rintro e w5 ⟨rfl, hw⟩
           subst hw)
        | (go_at_call 19
           with_reducible refine ((HF _).out).mono ?_
           rintro e w5 ⟨rfl, hw⟩
           subst hw))
    go_wp2
    have hk5 := Lib.hid (((HK1.out.alloc (.cells #[.int .u64 (pc : Int), .int .u64 (lab : Int)] 23)).alloc (.cells #[.int .i64 (k : Int), .int .i64 1, .int .i64 n, .string ⟨#[]⟩] 65)).drew)
    have hb5 := Lib.hid (((HB1.out.alloc (Nat.le_trans hBw HB1.out.size) (.cells #[.int .u64 (pc : Int), .int .u64 (lab : Int)] 23)).alloc (by have := HB1.out.size; simp; omega) (.cells #[.int .i64 (k : Int), .int .i64 1, .int .i64 n, .string ⟨#[]⟩] 65)).drew)
    have hx5 := (Has.new (W1.alloc (.cells #[.int .u64 (pc : Int), .int .u64 (lab : Int)] 23)) 65 [.int .i64 (k : Int), .int .i64 1, .int .i64 n, .string ⟨#[]⟩]).drew
    simp only [World.size_alloc] at hx5
    generalize World.drew _ = W5 at hk5 hb5 hx5 ⊢
    have e0 := hx5.cell 0
    have e1 := hx5.cell 1
    have e2 := hx5.cell 2
    have e3 := hx5.cell 3
    have hle := hx5.lt
    simp at e0 e1 e2 e3
    have hG5 := HG.out.keepsT hk5.out (by simp)
    have hl5 := hG5.lt
    have hBs := hb5.out.size
    obtain ⟨g', cap', w6, hrun, a0, a1, a2, hI6, hk6, hb6⟩ := app_W B G l ev ⟨k, 1, n, ⟨#[]⟩⟩ sv hev W5 (Nat.le_trans hBw hBs) hG5 (own_keepsT HO.out hk5.out (by simp)) hBG hl8 (fun c hm => (HOK.out c hm).keeps hk5.out (by simp))
    simp only [Ev.cells] at hrun
    obtain ⟨av, cp, hsv⟩ := HS.out
    subst hsv
    have d24 : W5.cell? ⟨G, 24, none⟩ = some (.slice av ev.length cp) := by
      rw [hG5.cell, List.getElem?_append_right (by rw [rowC_len]; omega), rowC_len, hl8]
      rfl
    have HI6 := Lib.hid hI6
    have HK6 := Lib.hid ((hk5.out.mono (by simp)).trans hk6 (fun _ h => h))
    have HB6 := Lib.hid (hb5.out.trans hb6)
    clear hx5 hG5 hI6 hk6 hb6 hk5 hb5 c0 hlt b0 b1 b2 b3 hlb HK1 HB1 HG HO HOK HS hBs
    go_region_law (refine step_append_own rfl (.tmp 49) (.tmp 51) 35 rfl _ _ _ _ rfl rfl hrun ?_)
    all_goals
      clear hrun
      go_wp2
      go_ret
      exact ⟨rfl, HI6.out, HK6.out, HB6.out⟩
  · rw [he]
    clear he
    go_enter Try.func11, Try.ntmps11
    go_wp2_with fail
    with_reducible refine ((H _).out).mono ?_
    rintro e w1 ⟨rfl, hw⟩
    subst hw
    go_wp2
    change Code.wp _ _ _ _ (World.alloc w _)
    generalize World.alloc w _ = W1 at c0 c1 c2 hlt hb HK1 HB1 ⊢
    have b0 := hb.cell 0
    have b1 := hb.cell 1
    have b2 := hb.cell 2
    have b3 := hb.cell 3
    have hlb := hb.lt
    simp at b0 b1 b2 b3
    clear hb c1 c2
    go_region_held3 (fun W' => W'.cell? ⟨w.heap.size, 3, none⟩ = some (.int .u64 (lab : Int)) ∧ W'.cell? ⟨G, k * 3, none⟩ = some (.int .u64 (m : Int))) (first | assumption | go_keep)
      (first
        | (go_at_call 20
           with_reducible refine ((HJ _).out).mono ?_
           rintro e w5 ⟨rfl, hw⟩
           subst hw)
        | (go_at_call 19
           with_reducible refine ((HF _).out).mono ?_
           rintro e w5 ⟨rfl, hw⟩
           subst hw))
    go_wp2
    have hk5 := Lib.hid (((HK1.out.alloc (.cells #[.int .u64 (pc : Int), .int .u64 (lab : Int)] 23)).alloc (.cells #[.int .i64 (k : Int), .int .i64 2, .int .i64 n, .string ⟨#[]⟩] 65)).drew)
    have hb5 := Lib.hid (((HB1.out.alloc (Nat.le_trans hBw HB1.out.size) (.cells #[.int .u64 (pc : Int), .int .u64 (lab : Int)] 23)).alloc (by have := HB1.out.size; simp; omega) (.cells #[.int .i64 (k : Int), .int .i64 2, .int .i64 n, .string ⟨#[]⟩] 65)).drew)
    have hx5 := (Has.new (W1.alloc (.cells #[.int .u64 (pc : Int), .int .u64 (lab : Int)] 23)) 65 [.int .i64 (k : Int), .int .i64 2, .int .i64 n, .string ⟨#[]⟩]).drew
    simp only [World.size_alloc] at hx5
    generalize World.drew _ = W5 at hk5 hb5 hx5 ⊢
    have e0 := hx5.cell 0
    have e1 := hx5.cell 1
    have e2 := hx5.cell 2
    have e3 := hx5.cell 3
    have hle := hx5.lt
    simp at e0 e1 e2 e3
    have hG5 := HG.out.keepsT hk5.out (by simp)
    have hl5 := hG5.lt
    have hBs := hb5.out.size
    obtain ⟨g', cap', w6, hrun, a0, a1, a2, hI6, hk6, hb6⟩ := app_W B G l ev ⟨k, 2, n, ⟨#[]⟩⟩ sv hev W5 (Nat.le_trans hBw hBs) hG5 (own_keepsT HO.out hk5.out (by simp)) hBG hl8 (fun c hm => (HOK.out c hm).keeps hk5.out (by simp))
    simp only [Ev.cells] at hrun
    obtain ⟨av, cp, hsv⟩ := HS.out
    subst hsv
    have d24 : W5.cell? ⟨G, 24, none⟩ = some (.slice av ev.length cp) := by
      rw [hG5.cell, List.getElem?_append_right (by rw [rowC_len]; omega), rowC_len, hl8]
      rfl
    have HI6 := Lib.hid hI6
    have HK6 := Lib.hid ((hk5.out.mono (by simp)).trans hk6 (fun _ h => h))
    have HB6 := Lib.hid (hb5.out.trans hb6)
    clear hx5 hG5 hI6 hk6 hb6 hk5 hb5 c0 hlt b0 b1 b2 b3 hlb HK1 HB1 HG HO HOK HS hBs
    go_region_law (refine step_append_own rfl (.tmp 49) (.tmp 51) 35 rfl _ _ _ _ rfl rfl hrun ?_)
    all_goals
      clear hrun
      go_wp2
      go_ret
      exact ⟨rfl, HI6.out, HK6.out, HB6.out⟩
  · rw [he]
    clear he
    go_enter Try.func11, Try.ntmps11
    go_wp2_with fail
    with_reducible refine ((H _).out).mono ?_
    rintro e w1 ⟨rfl, hw⟩
    subst hw
    go_wp2
    change Code.wp _ _ _ _ (World.alloc w _)
    generalize World.alloc w _ = W1 at c0 c1 c2 hlt hb HK1 HB1 ⊢
    have b0 := hb.cell 0
    have b1 := hb.cell 1
    have b2 := hb.cell 2
    have b3 := hb.cell 3
    have hlb := hb.lt
    simp at b0 b1 b2 b3
    clear hb c1 c2
    go_region_held3 (fun W' => W'.cell? ⟨w.heap.size, 3, none⟩ = some (.int .u64 (lab : Int)) ∧ W'.cell? ⟨G, k * 3, none⟩ = some (.int .u64 (m : Int))) (first | assumption | go_keep)
      (first
        | (go_at_call 20
           with_reducible refine ((HJ _).out).mono ?_
           rintro e w5 ⟨rfl, hw⟩
           subst hw)
        | (go_at_call 19
           with_reducible refine ((HF _).out).mono ?_
           rintro e w5 ⟨rfl, hw⟩
           subst hw))
    go_wp2
    have hk5 := Lib.hid (((HK1.out.alloc (.cells #[.int .u64 (pc : Int), .int .u64 (lab : Int)] 23)).alloc (.cells #[.int .i64 (k : Int), .int .i64 3, .int .i64 0, .string s] 65)).drew)
    have hb5 := Lib.hid (((HB1.out.alloc (Nat.le_trans hBw HB1.out.size) (.cells #[.int .u64 (pc : Int), .int .u64 (lab : Int)] 23)).alloc (by have := HB1.out.size; simp; omega) (.cells #[.int .i64 (k : Int), .int .i64 3, .int .i64 0, .string s] 65)).drew)
    have hx5 := (Has.new (W1.alloc (.cells #[.int .u64 (pc : Int), .int .u64 (lab : Int)] 23)) 65 [.int .i64 (k : Int), .int .i64 3, .int .i64 0, .string s]).drew
    simp only [World.size_alloc] at hx5
    generalize World.drew _ = W5 at hk5 hb5 hx5 ⊢
    have e0 := hx5.cell 0
    have e1 := hx5.cell 1
    have e2 := hx5.cell 2
    have e3 := hx5.cell 3
    have hle := hx5.lt
    simp at e0 e1 e2 e3
    have hG5 := HG.out.keepsT hk5.out (by simp)
    have hl5 := hG5.lt
    have hBs := hb5.out.size
    obtain ⟨g', cap', w6, hrun, a0, a1, a2, hI6, hk6, hb6⟩ := app_W B G l ev ⟨k, 3, 0, s⟩ sv hev W5 (Nat.le_trans hBw hBs) hG5 (own_keepsT HO.out hk5.out (by simp)) hBG hl8 (fun c hm => (HOK.out c hm).keeps hk5.out (by simp))
    simp only [Ev.cells] at hrun
    obtain ⟨av, cp, hsv⟩ := HS.out
    subst hsv
    have d24 : W5.cell? ⟨G, 24, none⟩ = some (.slice av ev.length cp) := by
      rw [hG5.cell, List.getElem?_append_right (by rw [rowC_len]; omega), rowC_len, hl8]
      rfl
    have HI6 := Lib.hid hI6
    have HK6 := Lib.hid ((hk5.out.mono (by simp)).trans hk6 (fun _ h => h))
    have HB6 := Lib.hid (hb5.out.trans hb6)
    clear hx5 hG5 hI6 hk6 hb6 hk5 hb5 c0 hlt b0 b1 b2 b3 hlb HK1 HB1 HG HO HOK HS hBs
    go_region_law (refine step_append_own rfl (.tmp 49) (.tmp 51) 35 rfl _ _ _ _ rfl rfl hrun ?_)
    all_goals
      clear hrun
      go_wp2
      go_ret
      exact ⟨rfl, HI6.out, HK6.out, HB6.out⟩
  · rw [he]
    clear he
    go_enter Try.func11, Try.ntmps11
    go_wp2_with fail
    with_reducible refine ((H _).out).mono ?_
    rintro e w1 ⟨rfl, hw⟩
    subst hw
    go_wp2
    change Code.wp _ _ _ _ (World.alloc w _)
    generalize World.alloc w _ = W1 at c0 c1 c2 hlt hb HK1 HB1 ⊢
    have b0 := hb.cell 0
    have b1 := hb.cell 1
    have b2 := hb.cell 2
    have b3 := hb.cell 3
    have hlb := hb.lt
    simp at b0 b1 b2 b3
    clear hb c1 c2
    go_region_held3 (fun W' => W'.cell? ⟨w.heap.size, 3, none⟩ = some (.int .u64 (lab : Int)) ∧ W'.cell? ⟨G, k * 3, none⟩ = some (.int .u64 (m : Int))) (first | assumption | go_keep)
      (first
        | (go_at_call 20
           with_reducible refine ((HJ _).out).mono ?_
           rintro e w5 ⟨rfl, hw⟩
           subst hw)
        | (go_at_call 19
           with_reducible refine ((HF _).out).mono ?_
           rintro e w5 ⟨rfl, hw⟩
           subst hw))
    go_wp2
    have hk5 := Lib.hid (((HK1.out.alloc (.cells #[.int .u64 (pc : Int), .int .u64 (lab : Int)] 23)).alloc (.cells #[.int .i64 (k : Int), .int .i64 kd, .int .i64 0, .string ⟨#[]⟩] 65)).drew)
    have hb5 := Lib.hid (((HB1.out.alloc (Nat.le_trans hBw HB1.out.size) (.cells #[.int .u64 (pc : Int), .int .u64 (lab : Int)] 23)).alloc (by have := HB1.out.size; simp; omega) (.cells #[.int .i64 (k : Int), .int .i64 kd, .int .i64 0, .string ⟨#[]⟩] 65)).drew)
    have hx5 := (Has.new (W1.alloc (.cells #[.int .u64 (pc : Int), .int .u64 (lab : Int)] 23)) 65 [.int .i64 (k : Int), .int .i64 kd, .int .i64 0, .string ⟨#[]⟩]).drew
    simp only [World.size_alloc] at hx5
    generalize World.drew _ = W5 at hk5 hb5 hx5 ⊢
    have e0 := hx5.cell 0
    have e1 := hx5.cell 1
    have e2 := hx5.cell 2
    have e3 := hx5.cell 3
    have hle := hx5.lt
    simp at e0 e1 e2 e3
    have hG5 := HG.out.keepsT hk5.out (by simp)
    have hl5 := hG5.lt
    have hBs := hb5.out.size
    obtain ⟨g', cap', w6, hrun, a0, a1, a2, hI6, hk6, hb6⟩ := app_W B G l ev ⟨k, kd, 0, ⟨#[]⟩⟩ sv hev W5 (Nat.le_trans hBw hBs) hG5 (own_keepsT HO.out hk5.out (by simp)) hBG hl8 (fun c hm => (HOK.out c hm).keeps hk5.out (by simp))
    simp only [Ev.cells] at hrun
    obtain ⟨av, cp, hsv⟩ := HS.out
    subst hsv
    have d24 : W5.cell? ⟨G, 24, none⟩ = some (.slice av ev.length cp) := by
      rw [hG5.cell, List.getElem?_append_right (by rw [rowC_len]; omega), rowC_len, hl8]
      rfl
    have HI6 := Lib.hid hI6
    have HK6 := Lib.hid ((hk5.out.mono (by simp)).trans hk6 (fun _ h => h))
    have HB6 := Lib.hid (hb5.out.trans hb6)
    clear hx5 hG5 hI6 hk6 hb6 hk5 hb5 c0 hlt b0 b1 b2 b3 hlb HK1 HB1 HG HO HOK HS hBs
    go_region_law (refine step_append_own rfl (.tmp 49) (.tmp 51) 35 rfl _ _ _ _ rfl rfl hrun ?_)
    all_goals
      clear hrun
      go_wp2
      go_ret
      exact ⟨rfl, HI6.out, HK6.out, HB6.out⟩
end WorldD
end Go.Proofs.Yteohgacblilfmaa
