/- The document's nearest places, all of them; what is reached. -/
import Derived.Test.YtajhkogknpmnbaaDoorFlowP
namespace Go.Proofs.YtajhkogknpmnbaaDoor
open Go.RowKit ObjM
namespace FlowD
open FlowM InstrM InstrD

/-- The nearest places in a row of their own. -/
def RowIs (w : World) (R : List Int) (e : Ending) (w' : World) : Prop := ∃ a k c, e = .returned (.slice a k c) ∧ w'.ownsRow w.heap.size 3 1 (.slice a k c) R.length (R.map (Value.int .i64)) ∧ k = R.length ∧ Below w.heap.size w w'
def PostsR (ws : List Nat) (R : List Int) : Prop := R.length = ws.length ∧ ∀ (n : Nat) (h : n < R.length), PostSpec (nextW ws) ws.length n R[n]
theorem posts_same {ws : List Nat} {R S : List Int} (h : PostsR ws R) (k : PostsR ws S) : R = S := by
  apply List.ext_getElem (by rw [h.1, k.1])
  intro i h1 h2
  exact post_unique (h.2 i h1) (k.2 i h2)
/-- The first j of them. -/
def PrS (ws : List Nat) (W1 : World) (B : Nat) (wr : World) (j : Nat) (v : Value) : Prop := ∃ R : List Int, R.length = j ∧ wr.ownsRow B 3 1 v R.length (R.map (Value.int .i64)) ∧ (∀ (n : Nat) (h : n < R.length), PostSpec (nextW ws) ws.length n R[n]) ∧ Below B W1 wr
theorem PrS.shape {ws : List Nat} {W1 wr : World} {B j : Nat} {v : Value} (h : PrS ws W1 B wr j v) : (∃ a c, v = .slice a j c) ∧ Below B W1 wr := by
  obtain ⟨R, h1, h2, _, h4⟩ := h
  refine ⟨?_, h4⟩
  rcases own_shape h2 with ⟨rfl, h5, _⟩ | ⟨g, cap, cs, rfl, _⟩
  · exact ⟨none, 0, by rw [← h1, h5]⟩
  · exact ⟨_, _, by rw [h1]⟩
theorem PrS.push {ws : List Nat} {W1 wr w' : World} {B j : Nat} {v : Value} {z : Int} (h : PrS ws W1 B wr j v) (hsz : B ≤ wr.heap.size) (hb : Below wr.heap.size wr w') (hj : j ≤ 1000) (hz : PostSpec (nextW ws) ws.length j z) :
    ∃ v2 W2, (Builtin.append_ #[26, 26] 26 #[v, .slice (some ⟨w'.heap.size, 0, none⟩) 1 1]).run Tryd.prog (w'.alloc (.cells #[.int .i64 z] 3)) = .ok v2 W2 ∧ Hid (PrS ws W1 B W2 (j + 1) v2) := by
  obtain ⟨R, h1, h2, h3, h4⟩ := h
  have k : Keeps [] wr (w'.alloc (.cells #[.int .i64 z] 3)) := (Keeps.below' hb []).trans (Keeps.alloc [] w' _) (by simp)
  have ho := own_keeps h2 k (fun g hg => by simp)
  have hb0 := h4.trans (k.toBelow B hsz (by simp))
  have hsz2 : B ≤ (w'.alloc (.cells #[.int .i64 z] 3)).heap.size := Nat.le_trans hsz k.size
  obtain ⟨v2, W2, hrun, hown, hg, hv⟩ := app_int 26 (W := w'.alloc (.cells #[.int .i64 z] 3)) z ho (by omega) hsz2 w'.heap.size 1 ((Has.new w' 3 [.int .i64 z]).cell 0)
  exact ⟨v2, W2, hrun, Lib.hid ⟨R ++ [z], by simp [h1], hown, posts_push h1 h3 hz, hb0.grown hg hsz2 (fun g hg' => (own_lt ho g hg').1)⟩⟩
set_option maxRecDepth 100000 in
set_option maxHeartbeats 16000000 in
theorem refPosts_any (p : PrV) (ws : List Nat) (w : World) (hw : WordsAt w p ws) (h64 : ws.length ≤ 64) :
    Calls Tryd.prog 15 #[p.agg] w fun e w' => ∃ R, PostsR ws R ∧ Hid (RowIs w R e w') := by
  obtain ⟨a0, n0, c0, rg, wa, wn, wk, a3, n3, c3, a4, n4, c4, a5, n5, c5⟩ := p
  obtain rfl : wn = ws.length := hw.len
  obtain ⟨hx, hb⟩ := pr_box w ⟨a0, n0, c0, rg, wa, ws.length, wk, a3, n3, c3, a4, n4, c4, a5, n5, c5⟩
  simp only [PrV.cells] at hx hb
  have HPo := Lib.hid (fun (n : Nat) (W : World) (hW : Below w.heap.size w W) (hn : n < ws.length) => refPost_any ⟨a0, n0, c0, rg, wa, ws.length, wk, a3, n3, c3, a4, n4, c4, a5, n5, c5⟩ ws n W (hw.below hW) h64 hn)
  simp only [PrV.agg] at HPo
  obtain ⟨m, hm⟩ : ∃ m, ws.length = m := ⟨_, rfl⟩
  have HM := Lib.hid hm
  unfold PrV.agg
  simp only
  rw [hm] at h64 hx hb HPo ⊢
  obtain ⟨w1, hw1⟩ : ∃ w1, w.alloc (.cells #[.slice a0 n0 c0, .int .i64 rg, .slice wa m wk, .slice a3 n3 c3, .slice a4 n4 c4, .slice a5 n5 c5] 28) = w1 := ⟨_, rfl⟩
  have hsz1 : w1.heap.size = w.heap.size + 1 := by rw [← hw1]; simp
  rw [hw1] at hx hb
  have HX : Hid (∀ W, Below (w.heap.size + 1) w1 W → (W.cell? ⟨w.heap.size, 0, none⟩ = some (.slice a0 n0 c0) ∧ W.cell? ⟨w.heap.size, 1, none⟩ = some (.int .i64 rg) ∧ W.cell? ⟨w.heap.size, 2, none⟩ = some (.slice wa m wk) ∧ W.cell? ⟨w.heap.size, 3, none⟩ = some (.slice a3 n3 c3) ∧ W.cell? ⟨w.heap.size, 4, none⟩ = some (.slice a4 n4 c4) ∧ W.cell? ⟨w.heap.size, 5, none⟩ = some (.slice a5 n5 c5)) ∧ w.heap.size < W.heap.size ∧ Below w.heap.size w W ∧ w.heap.size + 1 ≤ W.heap.size) := Lib.hid (fun W hW => by
    have g := hx.below hW (by omega)
    exact ⟨⟨g.cell 0, g.cell 1, g.cell 2, g.cell 3, g.cell 4, g.cell 5⟩, g.lt, hb.trans (hW.mono (by omega)), g.lt⟩)
  obtain ⟨⟨x0, x1, x2, x3, x4, x5⟩, lx, -⟩ := HX.out _ (Below.refl _ w1)
  have HW1 := Lib.hid hw1
  have HS0 : Hid (PrS ws w1 (w.heap.size + 1) w1 0 (.slice none 0 0)) := Lib.hid ⟨[], rfl, World.ownsRow_nil _ _ _ _, fun n h => by simp at h, Below.refl _ _⟩
  rw [← hw1] at x0 x1 x2 x3 x4 x5 lx
  clear hx hb hw hm hw1 hsz1
  go_enter Tryd.func15, Tryd.ntmps15
  go_wp2
  rw [HW1.out]
  go_loopg [8, 3] m (fun k i sv wr => ∃ (j : Nat) (v : Value), i = .int .i64 (j : Int) ∧ v = sv ∧ j ≤ m ∧ k + j = m ∧ Hid (PrS ws w1 (w.heap.size + 1) wr j v))
  case atStart => exact ⟨0, _, rfl, rfl, by omega, by omega, HS0⟩
  case round =>
    obtain ⟨j, v, rfl, rfl, hj, hk, HS⟩ := hrel
    clear HS0 x0 x1 x2 x3 x4 x5 lx
    obtain ⟨⟨va, vc, rfl⟩, hbr⟩ := HS.out.shape
    by_cases hlt : j < m
    · have hi1 : (j : Int) < (m : Int) := by omega
      have hi0 : (0 : Int) ≤ (j : Int) := by omega
      obtain ⟨⟨x0, x1, x2, x3, x4, x5⟩, lx, hWb, hsz⟩ := HX.out _ hbr
      have HC := Lib.hid (HPo.out j wr hWb hlt)
      clear hWb hbr
      go_wp2_with fail
      refine HC.out.mono ?_
      rintro e w5 ⟨z, rfl, hz, hb5⟩
      obtain ⟨v7, w7, hrun7, HS7⟩ := HS.out.push hsz hb5 (by omega) (by rw [HM.out]; exact hz)
      have HRun7 := Lib.hid hrun7
      clear HC HS hrun7 hz hb5 hsz
      go_wp2_with (at_builtin; refine wpList_append_run (by rfl) (.tmp 11) (.tmp 15) 26 rfl _ _ _ _ rfl rfl HRun7.out ?_)
      go_roundg (gk - 1)
      case measure => omega
      case rel => exact ⟨j + 1, _, by go_num, rfl, by omega, by omega, HS7⟩
    · have hjm : j = m := by omega
      subst hjm
      have HF : Hid (∃ R, PostsR ws R ∧ Hid (RowIs w R (.returned (.slice va j vc)) wr)) := Lib.hid (by
        obtain ⟨R, h1, h2, h3, h4⟩ := HS.out
        exact ⟨R, ⟨by rw [h1, HM.out], h3⟩, Lib.hid ⟨va, j, vc, rfl, own_base h2 (by omega), h1.symm, (HX.out _ h4).2.2.1⟩⟩)
      clear HS hbr
      go_wp2
      go_ret
      exact HF.out
end FlowD
end Go.Proofs.YtajhkogknpmnbaaDoor
namespace Go.Proofs.YtajhkogknpmnbaaDoor
open Go.RowKit ObjM
namespace FlowD
open FlowM InstrM InstrD

theorem mk0 (w : World) : (Instr.makeSlice 54 (.int .i64 0) (.int .i64 0)).run Tryd.prog w = .ok (.slice (some ⟨w.heap.size, 0, none⟩) 0 0) (w.alloc (.cells #[] 84)) := by kernel_rfl
set_option maxRecDepth 100000 in
theorem newSet_zero (w : World) : Calls Tryd.prog 32 #[.int .i64 0] w fun e w' => e = .returned (.slice (some ⟨w.heap.size, 0, none⟩) 0 0) ∧ Below w.heap.size w w' := by
  have hmk := mk0
  go_enter Tryd.func32, Tryd.ntmps32
  go_wp2
  go_ret
  exact ⟨rfl, (Below.refl _ w).alloc (Nat.le_refl _) _⟩
set_option maxRecDepth 100000 in
theorem spread_nil (a : Option Addr) (k c f : Nat) (xs ys : Array Value) (w : World) : Calls Tryd.prog 31 #[.slice none 0 0, .slice a k c, .func (.func f) xs ys] w fun e w' => e = .returned (.slice none 0 0) ∧ Below w.heap.size w w' := by
  have HM := Lib.hid (more_nil w.heap.size (w.heap.size + 1) ((w.alloc (.cells #[.slice a k c] 54)).alloc (.cells #[.slice none 0 0] 26)))
  have HB : Hid (Below w.heap.size w ((w.alloc (.cells #[.slice a k c] 54)).alloc (.cells #[.slice none 0 0] 26))) := Lib.hid (((Below.refl _ w).alloc (Nat.le_refl _) _).alloc (by simp) _)
  have hl := Has.new (w.alloc (.cells #[.slice a k c] 54)) 26 [.slice none 0 0]
  rw [World.size_alloc] at hl
  have c1 := hl.cell 0
  have l1 := hl.lt
  simp only [List.getElem?_cons_zero] at c1
  clear hl
  go_enter Tryd.func31, Tryd.ntmps31
  go_wp2_with fail
  refine HM.out.mono ?_
  rintro e w1 ⟨rfl, rfl⟩
  obtain ⟨W1, hW1⟩ : ∃ W1, (w.alloc (.cells #[.slice a k c] 54)).alloc (.cells #[.slice none 0 0] 26) = W1 := ⟨_, rfl⟩
  rw [hW1] at HB c1 l1 ⊢
  clear HM hW1
  go_wp2
  go_loopw [9] (fun i wr => i = .int .i64 0 ∧ W1 = wr) (fun _ _ => 0)
  case atStart => exact ⟨rfl, rfl⟩
  case round =>
    obtain ⟨rfl, rfl⟩ := hrel
    go_wp2
    go_ret
    exact ⟨rfl, HB.out⟩
set_option maxRecDepth 100000 in
set_option maxHeartbeats 4000000 in
theorem fromEnd_zero (a : Option Addr) (c : Nat) (w : World) : Calls Tryd.prog 26 #[.slice a 0 c] w fun e w' => e = .returned (.slice none 0 0) ∧ Below w.heap.size w w' := by
  obtain ⟨i0, hi, hz0, hz1, hz2⟩ := info_rows
  go_enter Tryd.func26, Tryd.ntmps26
  go_wp2_with (at_make; refine wpList_make_full _ rfl _ _ 48 rfl w.heap.size 26 i0 (.slice none 0 0) 1 Tryd.underlying48 hi hz0 hz1 .i64 .i64 (0 : Int) (0 : Int) 0 rfl rfl rfl rfl ?c1 ?c2 ?c3 ?_)
  case c1 => rw [hz2]; omega
  case c2 => unfold maxLen; omega
  case c3 => exact Nat.le_refl _
  intro w1 hrow hgrow
  have hb1 : Below w.heap.size w w1 := (Below.refl _ w).grown hgrow (Nat.le_refl _) (fun k hk => by cases hk)
  have HB : Hid (Below w.heap.size w (w1.alloc (.cells #[.slice (some ⟨w.heap.size, 0, none⟩) 0 0] 48))) := Lib.hid (hb1.alloc hb1.size _)
  clear hrow hgrow hb1 hi hz0 hz1 hz2
  go_wp2
  go_loopw [14, 4] (fun i lv wr => i = .int .i64 0 ∧ lv = .slice none 0 0 ∧ Hid (Below w.heap.size w wr)) (fun _ _ _ => 0)
  case atStart => exact ⟨rfl, rfl, HB⟩
  case round =>
    obtain ⟨rfl, rfl, HBr⟩ := hrel
    clear HB
    have HN := Lib.hid (newSet_zero wr)
    go_wp2_with fail
    refine HN.out.mono ?_
    rintro e w2 ⟨rfl, hb2⟩
    have HB2 := Lib.hid (HBr.out.trans (hb2.mono HBr.out.size))
    have HS := Lib.hid (fun (X : Nat) => spread_nil (some ⟨wr.heap.size, 0, none⟩) 0 0 50 #[] #[.pointer (some ⟨X, 0, none⟩)] w2)
    clear HN hb2 HBr
    go_wp2_with fail
    refine (HS.out _).mono ?_
    rintro e w3 ⟨rfl, hb3⟩
    have HB3 := Lib.hid (HB2.out.trans (hb3.mono HB2.out.size))
    clear HS HB2 hb3
    go_wp2
    go_ret
    exact ⟨rfl, HB3.out⟩
set_option maxRecDepth 100000 in
set_option maxHeartbeats 4000000 in
theorem settle_zero (nv : Value) (w : World) : Calls Tryd.prog 27 #[nv, .slice none 0 0, .int .i64 0] w fun e w' => (∃ S, e = .returned (.slice (some ⟨S, 0, none⟩) 0 0)) ∧ Below w.heap.size w w' := by
  obtain ⟨i0, hi, hz0, hz1, hz2⟩ := info_sets
  go_enter Tryd.func27, Tryd.ntmps27
  go_wp2
  go_step3
  go_wp2_with (at_make; refine wpList_make_full _ rfl _ _ 51 rfl w.heap.size 54 i0 (.slice none 0 0) 1 Tryd.underlying51 hi hz0 hz1 .i64 .i64 (0 : Int) (0 : Int) 0 rfl rfl rfl rfl ?c1 ?c2 ?c3 ?_)
  case c1 => rw [hz2]; omega
  case c2 => unfold maxLen; omega
  case c3 => exact Nat.le_refl _
  intro w1 hrow hgrow
  have hb1 : Below w.heap.size w w1 := (Below.refl _ w).grown hgrow (Nat.le_refl _) (fun k hk => by cases hk)
  have HB := Lib.hid hb1
  clear hrow hgrow hb1 hi hz0 hz1 hz2
  go_wp2
  go_loopw [18] (fun i wr => i = .int .i64 0 ∧ w1 = wr) (fun _ _ => 0)
  case atStart => exact ⟨rfl, rfl⟩
  case round =>
    obtain ⟨rfl, rfl⟩ := hrel
    have HN := Lib.hid (newSet_zero w1)
    go_wp2_with fail
    refine HN.out.mono ?_
    rintro e w3 ⟨rfl, hb3⟩
    have HF := Lib.hid (HB.out.trans (hb3.mono HB.out.size))
    clear HB hb3 HN
    go_wp2
    go_step3
    go_wp2
    go_loopw [11, 12] (fun a s wr => a = .int .i64 0 ∧ s = .int .i64 0 ∧ w3 = wr) (fun _ _ _ => 0)
    case atStart => exact ⟨rfl, rfl, rfl⟩
    case round =>
      obtain ⟨rfl, rfl, rfl⟩ := hrel
      go_wp2
      rw [Exit.noGoto_ret]
      go_ret
      exact ⟨⟨_, rfl⟩, HF.out⟩
end FlowD
end Go.Proofs.YtajhkogknpmnbaaDoor
namespace Go.Proofs.YtajhkogknpmnbaaDoor
open Go.RowKit ObjM
namespace FlowD
open FlowM InstrM InstrD LabelD

set_option maxRecDepth 100000 in
set_option maxHeartbeats 8000000 in
theorem posts_zero (p : PrV) (w : World) (hw : WordsAt w p []) (hT : Tabs w) : Calls Tryd.prog 14 #[p.agg] w (PostsIs w []) := by
  obtain ⟨a0, n0, c0, rg, wa, wn, wk, a3, n3, c3, a4, n4, c4, a5, n5, c5⟩ := p
  obtain rfl : wn = 0 := hw.len
  obtain ⟨hx, hb⟩ := pr_box w ⟨a0, n0, c0, rg, wa, 0, wk, a3, n3, c3, a4, n4, c4, a5, n5, c5⟩
  simp only [PrV.cells] at hx hb
  obtain ⟨i0, hi, hz0, hz1, hz2⟩ := info_fl
  have HNx := Lib.hid (nexts_any _ [] _ (hw.below hb) (hT.below hb))
  simp only [PrV.agg] at HNx
  unfold PrV.agg
  simp only
  obtain ⟨w1, hw1⟩ : ∃ w1, w.alloc (.cells #[.slice a0 n0 c0, .int .i64 rg, .slice wa 0 wk, .slice a3 n3 c3, .slice a4 n4 c4, .slice a5 n5 c5] 28) = w1 := ⟨_, rfl⟩
  rw [hw1] at hx hb HNx
  have HB := Lib.hid hb
  have x0 := hx.cell 0
  have x1 := hx.cell 1
  have x2 := hx.cell 2
  have x3 := hx.cell 3
  have x4 := hx.cell 4
  have x5 := hx.cell 5
  have lx := hx.lt
  simp only [List.getElem?_cons_zero, List.getElem?_cons_succ] at x0 x1 x2 x3 x4 x5
  have HW1 := Lib.hid hw1
  rw [← hw1] at x0 x1 x2 x3 x4 x5 lx HNx
  clear hx hb hw hT hw1
  go_enter Tryd.func14, Tryd.ntmps14
  go_wp2_with fail
  refine HNx.out.mono ?_
  rintro e w2 ⟨N, Ls, rfl, hN, hL, hnx, hb2⟩
  rw [HW1.out] at hb2
  have HB2 := Lib.hid (HB.out.trans (hb2.mono HB.out.size))
  have HFe := Lib.hid (fromEnd_zero (some ⟨N, 0, none⟩) 0 w2)
  clear HNx hN hL hnx hb2 x0 x1 x2 x3 x4 x5 lx HW1 HB
  go_wp2_with fail
  refine HFe.out.mono ?_
  rintro e w3 ⟨rfl, hb3⟩
  have HB3 := Lib.hid (HB2.out.trans (hb3.mono HB2.out.size))
  have HSe := Lib.hid (fun nv => settle_zero nv w3)
  clear HFe HB2 hb3
  go_wp2_with fail
  refine (HSe.out _).mono ?_
  rintro e w4 ⟨⟨S, rfl⟩, hb4⟩
  have HB4 := Lib.hid (HB3.out.trans (hb4.mono HB3.out.size))
  clear HSe HB3 hb4
  go_wp2_with (at_make; refine wpList_make_full _ rfl _ _ 26 rfl w4.heap.size 3 i0 (.int .i64 0) 1 Tryd.underlying26 hi hz0 hz1 .i64 .i64 (0 : Int) (0 : Int) 0 rfl rfl rfl rfl ?c1 ?c2 ?c3 ?_)
  case c1 => rw [hz2]; omega
  case c2 => unfold maxLen; omega
  case c3 => exact Nat.le_refl _
  intro w5 hrow hgrow
  have HB5 : Hid (Below w.heap.size w w5) := Lib.hid (HB4.out.grown hgrow HB4.out.size (fun k hk => by cases hk))
  clear hrow hgrow HB4
  go_wp2
  go_loopw [27] (fun i wr => i = .int .i64 0 ∧ w5 = wr) (fun _ _ => 0)
  case atStart => exact ⟨rfl, rfl⟩
  case round =>
    obtain ⟨rfl, rfl⟩ := hrel
    go_wp2_with (at_make; refine wpList_make_full _ rfl _ _ 26 rfl w5.heap.size 3 i0 (.int .i64 0) 1 Tryd.underlying26 hi hz0 hz1 .i64 .i64 (0 : Int) (0 : Int) 0 rfl rfl rfl rfl ?d1 ?d2 ?d3 ?_)
    case d1 => rw [hz2]; omega
    case d2 => unfold maxLen; omega
    case d3 => exact Nat.le_refl _
    intro w7 hrow hgrow
    have hh := made_has hrow
    have hb7 : Below w.heap.size w w7 := HB5.out.grown hgrow HB5.out.size (fun k hk => by cases hk)
    have HE : Hid (PostsIs w [] (.returned (.slice (some ⟨w5.heap.size, 0, none⟩) 0 0)) w7) := Lib.hid ⟨_, [], rfl, HB5.out.size, ⟨_, hh, fun i h => by simp at h⟩, rfl, fun n h => by simp at h, hb7⟩
    clear hrow hgrow hh hb7 HB5 hi hz0 hz1 hz2
    go_wp2
    go_loopw [43] (fun i wv => i = .int .i64 0 ∧ w7 = wv) (fun _ _ => 0)
    case atStart => exact ⟨rfl, rfl⟩
    case round =>
      obtain ⟨rfl, rfl⟩ := hrel
      go_wp2
      go_ret
      exact HE.out
theorem posts_any (p : PrV) (ws : List Nat) (w : World) (hw : WordsAt w p ws) (hT : Tabs w) (hBr : Bru w) (hgb : 0 < w.heap.size) (h64 : ws.length ≤ 64) : Calls Tryd.prog 14 #[p.agg] w (PostsIs w ws) := by
  cases ws with
  | nil => exact posts_zero p w hw hT
  | cons x r => exact posts_some p (x :: r) w hw hT hBr hgb (by simp) h64
set_option maxRecDepth 100000 in
theorem few_any (p : PrV) (w : World) : Calls Tryd.prog 10 #[p.agg] w fun e w' => e = .returned (.bool (decide (p.wn ≤ 40))) ∧ Below w.heap.size w w' := by
  obtain ⟨a0, n0, c0, rg, wa, m, wk, a3, n3, c3, a4, n4, c4, a5, n5, c5⟩ := p
  obtain ⟨hx, hb⟩ := pr_box w ⟨a0, n0, c0, rg, wa, m, wk, a3, n3, c3, a4, n4, c4, a5, n5, c5⟩
  simp only [PrV.cells] at hx hb
  have HB := Lib.hid hb
  have x2 := hx.cell 2
  have lx := hx.lt
  simp only [List.getElem?_cons_zero, List.getElem?_cons_succ] at x2
  unfold PrV.agg
  simp only
  clear hx hb
  have hd : (decide ((m : Int) ≤ 40)) = decide (m ≤ 40) := by rw [Bool.eq_iff_iff, decide_eq_true_eq, decide_eq_true_eq]; omega
  go_enter Tryd.func10, Tryd.ntmps10
  go_wp2
  go_ret
  exact ⟨by rw [← hd]; rfl, HB.out⟩
/-- Both lists in memory, compared. -/
def RowV (w : World) (a : Option Addr) (k : Nat) (R : List Int) : Prop := k = R.length ∧ (R ≠ [] → ∃ g, a = some ⟨g, 0, none⟩ ∧ RowAt w g R)
theorem rowV_of {w : World} {B : Nat} {a : Option Addr} {k c : Nat} {R : List Int} (h : w.ownsRow B 3 1 (.slice a k c) R.length (R.map (Value.int .i64))) : RowV w a k R := by
  rcases row_of_own h with ⟨g1, g2⟩ | ⟨g, cap, g2, _, g3⟩
  · injection g2 with e1 e2 e3
    exact ⟨by rw [e2, g1]; rfl, fun h => absurd g1 h⟩
  · injection g2 with e1 e2 e3
    exact ⟨e2, fun _ => ⟨g, e1, g3⟩⟩
theorem RowV.keeps {w w' : World} {a : Option Addr} {k : Nat} {R : List Int} (h : RowV w a k R) (hk : Keeps [] w w') : RowV w' a k R := ⟨h.1, fun hr => by
  obtain ⟨g, g1, g2⟩ := h.2 hr
  exact ⟨g, g1, g2.keeps hk (by simp)⟩⟩
set_option maxRecDepth 100000 in
set_option maxHeartbeats 8000000 in
theorem same_any (a b : Option Addr) (k l c d : Nat) (R S : List Int) (w : World) (hR : RowV w a k R) (hS : RowV w b l S) (hlR : R.length ≤ 1000000) : Calls Tryd.prog 11 #[.slice a k c, .slice b l d] w fun e w' => e = .returned (.bool (decide (R = S))) ∧ Keeps [] w w' := by
  obtain ⟨rfl, h1⟩ := hR
  obtain ⟨rfl, h2⟩ := hS
  have HR : Hid (∀ W, Keeps [] w W → (R ≠ [] → ∃ g, a = some ⟨g, 0, none⟩ ∧ RowAt W g R) ∧ (S ≠ [] → ∃ g, b = some ⟨g, 0, none⟩ ∧ RowAt W g S)) := Lib.hid fun W hW => ⟨fun h => by
    obtain ⟨g, g1, g2⟩ := h1 h
    exact ⟨g, g1, g2.keeps hW (by simp)⟩, fun h => by
    obtain ⟨g, g1, g2⟩ := h2 h
    exact ⟨g, g1, g2.keeps hW (by simp)⟩⟩
  clear h1 h2
  obtain ⟨m, hm⟩ : ∃ m, R.length = m := ⟨_, rfl⟩
  obtain ⟨q, hq⟩ : ∃ q, S.length = q := ⟨_, rfl⟩
  have HM := Lib.hid hm
  have HQ := Lib.hid hq
  rw [hm] at hlR
  rw [hm, hq]
  clear hm hq
  have HK0 := Lib.hid (Keeps.refl [] w)
  by_cases hmq : m = q
  · subst hmq
    have hmm : ((m : Int) != (m : Int)) = false := by simp
    go_enter Tryd.func11, Tryd.ntmps11
    go_wp2
    go_loopg [13] m (fun k i wr => ∃ j : Nat, i = .int .i64 (j : Int) ∧ j ≤ m ∧ k + j = m ∧ Hid (R.take j = S.take j ∧ Keeps [] w wr))
    case atStart => exact ⟨0, rfl, by omega, by omega, Lib.hid ⟨rfl, HK0.out⟩⟩
    case round =>
      obtain ⟨j, rfl, hj, hk, HS⟩ := hrel
      by_cases hlt : j < m
      · have hi1 : (j : Int) < (m : Int) := by omega
        have hi0 : (0 : Int) ≤ (j : Int) := by omega
        have hjR : j < R.length := by rw [HM.out]; exact hlt
        have hjS : j < S.length := by rw [HQ.out]; exact hlt
        obtain ⟨g, rfl, hg⟩ := (HR.out wr HS.out.2).1 (by intro e; rw [e] at hjR; simp at hjR)
        obtain ⟨h, rfl, hh⟩ := (HR.out wr HS.out.2).2 (by intro e; rw [e] at hjS; simp at hjS)
        have c1 := hg.cell hjR
        have c2 := hh.cell hjS
        have l1 := hg.lt
        have l2 := hh.lt
        have HSt : Hid (R[j] = S[j] → ∀ n, R.take (j + 1) = S.take (j + 1) ∧ Keeps [] w (wr.drewN n)) := Lib.hid fun e n => ⟨by rw [List.take_succ_eq_append_getElem hjR, List.take_succ_eq_append_getElem hjS, HS.out.1, e], HS.out.2.trans (Keeps.drewN [] wr n) (by simp)⟩
        have HNo : Hid (R[j] ≠ S[j] → decide (R = S) = false) := Lib.hid fun e => decide_eq_false (fun h => e (by simp [h]))
        have HKd : Hid (∀ n, Keeps [] w (wr.drewN n)) := Lib.hid fun n => HS.out.2.trans (Keeps.drewN [] wr n) (by simp)
        generalize R[j] = x at c1 HSt HNo
        generalize S[j] = y at c2 HSt HNo
        clear hg hh HS
        by_cases hxy : x = y
        · have hb : (x != y) = false := by simp [hxy]
          have HE := Lib.hid (HSt.out hxy)
          clear HSt HNo hxy
          go_wp2
          go_quiet (fail)
          go_wp2
          go_roundg (gk - 1)
          case measure => omega
          case rel => exact ⟨j + 1, by go_num, by omega, by omega, Lib.hid (HE.out _)⟩
        · have hb : (x != y) = true := by simpa using hxy
          have HE := Lib.hid (HNo.out hxy)
          clear HSt HNo hxy
          go_wp2
          go_quiet (fail)
          go_wp2
          go_ret
          exact ⟨by rw [HE.out]; rfl, HKd.out _⟩
      · have hjm : j = m := by omega
        subst hjm
        have HE : Hid (decide (R = S) = true ∧ Keeps [] w wr) := Lib.hid ⟨decide_eq_true (by
          have := HS.out.1
          rwa [List.take_of_length_le (by rw [HM.out]; exact Nat.le_refl _), List.take_of_length_le (by rw [HQ.out]; exact Nat.le_refl _)] at this), HS.out.2⟩
        clear HS
        go_wp2
        go_ret
        exact ⟨by rw [HE.out.1]; rfl, HE.out.2⟩
  · have hmm : ((m : Int) != (q : Int)) = true := by simp; omega
    have HE : Hid (decide (R = S) = false) := Lib.hid (decide_eq_false (fun h => hmq (by rw [← HM.out, ← HQ.out, h])))
    clear hmq
    go_enter Tryd.func11, Tryd.ntmps11
    go_wp2
    go_ret
    exact ⟨by rw [HE.out]; rfl, HK0.out⟩
end FlowD
end Go.Proofs.YtajhkogknpmnbaaDoor
