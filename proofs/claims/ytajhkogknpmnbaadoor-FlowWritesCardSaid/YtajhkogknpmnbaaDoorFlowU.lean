/- What is reached: the document's. -/
import Derived.Test.YtajhkogknpmnbaaDoorFlowT
import Derived.Deep.DeepCutAuto
namespace Go.Proofs.YtajhkogknpmnbaaDoor
open Go.RowKit ObjM
namespace FlowD
open FlowM InstrM InstrD

set_option maxRecDepth 100000 in
set_option maxHeartbeats 8000000 in
theorem refReach_zero (p : PrV) (w : World) (hw : WordsAt w p []) : Calls Tryd.prog 17 #[p.agg] w (ReachR w []) := by
  obtain ⟨a0, n0, c0, rg, wa, wn, wk, a3, n3, c3, a4, n4, c4, a5, n5, c5⟩ := p
  obtain rfl : wn = 0 := hw.len
  obtain ⟨hx, hb⟩ := pr_box w ⟨a0, n0, c0, rg, wa, 0, wk, a3, n3, c3, a4, n4, c4, a5, n5, c5⟩
  simp only [PrV.cells] at hx hb
  have HB := Lib.hid hb
  have x2 := hx.cell 2
  have lx := hx.lt
  simp only [List.getElem?_cons_zero, List.getElem?_cons_succ] at x2
  unfold PrV.agg
  simp only
  clear hx hb hw
  go_enter Tryd.func17, Tryd.ntmps17
  go_wp2
  go_ret
  exact ⟨none, 0, fun _ => false, rfl, fun x hx => by simp at hx, fun h => absurd rfl h, HB.out⟩
set_option maxRecDepth 100000 in
set_option maxHeartbeats 16000000 in
theorem refReach_some (p : PrV) (ws : List Nat) (w : World) (hw : WordsAt w p ws) (h1 : 1 ≤ ws.length) (h64 : ws.length ≤ 64) : Calls Tryd.prog 17 #[p.agg] w (ReachR w ws) := by
  obtain ⟨a0, n0, c0, rg, wa, wn, wk, a3, n3, c3, a4, n4, c4, a5, n5, c5⟩ := p
  obtain rfl : wn = ws.length := hw.len
  obtain ⟨hx, hb⟩ := pr_box w ⟨a0, n0, c0, rg, wa, ws.length, wk, a3, n3, c3, a4, n4, c4, a5, n5, c5⟩
  simp only [PrV.cells] at hx hb
  obtain ⟨w1, hw1⟩ : ∃ w1, w.alloc (.cells #[.slice a0 n0 c0, .int .i64 rg, .slice wa ws.length wk, .slice a3 n3 c3, .slice a4 n4 c4, .slice a5 n5 c5] 28) = w1 := ⟨_, rfl⟩
  have hsz1 : w1.heap.size = w.heap.size + 1 := by rw [← hw1]; simp
  rw [hw1] at hx hb
  have HX : Hid (∀ W, Below w1.heap.size w1 W → (W.cell? ⟨w.heap.size, 0, none⟩ = some (.slice a0 n0 c0) ∧ W.cell? ⟨w.heap.size, 1, none⟩ = some (.int .i64 rg) ∧ W.cell? ⟨w.heap.size, 2, none⟩ = some (.slice wa ws.length wk) ∧ W.cell? ⟨w.heap.size, 3, none⟩ = some (.slice a3 n3 c3) ∧ W.cell? ⟨w.heap.size, 4, none⟩ = some (.slice a4 n4 c4) ∧ W.cell? ⟨w.heap.size, 5, none⟩ = some (.slice a5 n5 c5)) ∧ w.heap.size < W.heap.size ∧ Below w.heap.size w W) := Lib.hid (fun W hW => by
    have g := hx.below hW hx.lt
    exact ⟨⟨g.cell 0, g.cell 1, g.cell 2, g.cell 3, g.cell 4, g.cell 5⟩, g.lt, hb.trans (hW.mono (by omega))⟩)
  have HB0 := Lib.hid (Below.refl w1.heap.size w1)
  have HW1 := Lib.hid hw1
  obtain ⟨⟨x0, x1, x2, x3, x4, x5⟩, lx, hwb⟩ := HX.out _ HB0.out
  unfold PrV.agg
  simp only
  have hZ : ∀ W : World, Has (W.alloc (.cells #[.int .i64 0] 3)) W.heap.size 3 [.int .i64 0] := fun W => Has.new W 3 _
  have hb2 : Below w1.heap.size w1 (w1.alloc (.cells #[.int .i64 0] 3)).drew := (HB0.out.alloc (Nat.le_refl _) _).drew
  have HC := Lib.hid (reach_any ⟨a0, n0, c0, rg, wa, ws.length, wk, a3, n3, c3, a4, n4, c4, a5, n5, c5⟩ ws [0] (-2) w1.heap.size 1 (w1.alloc (.cells #[.int .i64 0] 3)).drew (hw.below (HX.out _ hb2).2.2) h64 ⟨_, hZ w1, fun i hi => by
      have : i = 0 := by simpa using hi
      subst this
      rfl⟩ (by simp) (mem_start h1) (by decide))
  obtain ⟨⟨d0, d1, d2, d3, d4, d5⟩, ld, -⟩ := HX.out w1.drew (HB0.out.drew)
  obtain ⟨⟨e0, e1, e2, e3, e4, e5⟩, le, -⟩ := HX.out _ hb2
  have HB2 := Lib.hid hb2
  simp only [PrV.agg, List.length_singleton] at HC
  obtain ⟨m, hm⟩ : ∃ m, ws.length = m := ⟨_, rfl⟩
  have HM := Lib.hid hm
  have hm0 : ((m : Int) == 0) = false := by simp; omega
  rw [hm] at HC HX x2 d2 e2 h1 HW1 hw1 ⊢
  have hmc : (m : Int) ≤ (m : Int) + 1 := by omega
  have hm00 : (0 : Int) ≤ (m : Int) := by omega
  have X0 := x0
  rw [← hw1] at x0 x1 x2 x3 x4 x5 lx
  clear hx hb hw hwb hb2 hZ hsz1 hm h64 hw1
  go_enter Tryd.func17, Tryd.ntmps17
  go_wp2
  rw [HW1.out]
  rw [HW1.out] at x0 x1 x2 x3 x4 x5 lx
  go_cut [2] (fun s wx => ∃ (O : Nat) (bs : Nat → Bool) (be : Bool), s = .slice (some ⟨O, 0, none⟩) m (m + 1) ∧ Hid (Has wx O 4 (outC m bs be) ∧ (∀ x, x < m → (bs x = true ↔ ComeS [0] (nextW ws) (-2) x)) ∧ Below w.heap.size w wx))
  case first =>
    first
      | (go_region_with (go_at_call 34
                         refine HC.out.mono ?_
                         intro e w5 hre
                         obtain ⟨O, bs, be, rfl, hO, hH, hcom, hend, hin, hb5⟩ := hre
                         have hb6 : Below w1.heap.size w1 w5 := below_n HB2.out hb5 (by simp)
                         obtain ⟨⟨v0, v1, v2, v3, v4, v5⟩, lv, hw5⟩ := HX.out _ hb6))
      | fail
    all_goals
      go_wp2_with fail
      go_meet
      exact ⟨O, bs, be, rfl, Lib.hid ⟨hH, hcom, hw5⟩⟩
  case rest =>
    obtain ⟨O, bs, be, rfl, HD⟩ := hcut
    have HF : Hid (ReachR w ws (.returned (.slice (some ⟨O, 0, none⟩) m (m + 1))) wc) := Lib.hid (by
      refine ⟨_, m + 1, bs, by rw [HM.out], fun x hx => ?_, fun _ => ⟨O, _, rfl, HD.out.1, fun x hx => out_get (by rw [← HM.out]; exact hx)⟩, HD.out.2.2⟩
      rw [HD.out.2.1 x (by rw [← HM.out]; exact hx)]
      unfold ComeS
      have e2 : (fun x : Nat => decide ((x : Int) = -2)) = fun _ => false := by
        funext x
        exact decide_eq_false (by omega)
      rw [e2])
    clear HD
    go_wp2
    go_ret
    exact HF.out
theorem refReach_any (p : PrV) (ws : List Nat) (w : World) (hw : WordsAt w p ws) (h64 : ws.length ≤ 64) : Calls Tryd.prog 17 #[p.agg] w (ReachR w ws) := by
  cases ws with
  | nil => exact refReach_zero p w hw
  | cons x r => exact refReach_some p (x :: r) w hw (by simp) h64
end FlowD
end Go.Proofs.YtajhkogknpmnbaaDoor
