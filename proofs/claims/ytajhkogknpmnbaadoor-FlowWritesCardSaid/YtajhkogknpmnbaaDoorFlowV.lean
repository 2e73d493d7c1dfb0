/- FlowReach. -/
import Derived.Test.YtajhkogknpmnbaaDoorFlowU
import Derived.BigQuiet
namespace Go.Proofs.YtajhkogknpmnbaaDoor
open Go.RowKit ObjM
namespace FlowD
open FlowM InstrM InstrD LabelD

theorem ReachR.keep {w w' : World} {ws : List Nat} {a : Option Addr} {bs : Nat → Bool} (h : ws ≠ [] → ∃ (O : Nat) (cs : List Value), a = some ⟨O, 0, none⟩ ∧ Has w O 4 cs ∧ ∀ x, x < ws.length → cs[x]? = some (.bool (bs x))) (k : Keeps [] w w') : ws ≠ [] → ∃ (O : Nat) (cs : List Value), a = some ⟨O, 0, none⟩ ∧ Has w' O 4 cs ∧ ∀ x, x < ws.length → cs[x]? = some (.bool (bs x)) := fun hw => by
  obtain ⟨O, cs, h1, h2, h3⟩ := h hw
  exact ⟨O, cs, h1, h2.keeps k (by simp), h3⟩
set_option maxRecDepth 100000 in
set_option maxHeartbeats 16000000 in
theorem flowReach_u (p : PrV) (w : World) (hW : p.wn ≤ 1000000 → ∃ ws, WordsAt w p ws) (hT : Tabs w) (hBr : Bru w) (hgb : 0 < w.heap.size) :
    Calls Tryd.prog 5 #[p.agg] w fun e w' => e = .returned (.bool true) ∧ Below w.heap.size w w' := by
  obtain ⟨hx, hb⟩ := pr_box w p
  have HTB : Hid (∀ W, Below w.heap.size w W → Tabs W ∧ Bru W ∧ 0 < W.heap.size) := Lib.hid fun W hW => ⟨hT.below hW, fun j hj => (hW.cell (p := ⟨_, j, none⟩) hgb).trans (hBr j hj), Nat.lt_of_lt_of_le hgb hW.size⟩
  have HFe := Lib.hid (fun W => few_any p W)
  have HAw := Lib.hid (awake_any _ (HTB.out _ hb).1 (HTB.out _ hb).2.1 (HTB.out _ hb).2.2)
  clear hT hBr hgb
  have HWs := Lib.hid hW
  clear hW
  obtain ⟨a0, n0, c0, rg, wa, wn, wk, a3, n3, c3, a4, n4, c4, a5, n5, c5⟩ := p
  simp only [PrV.cells] at hx hb HAw
  obtain ⟨w1, hw1⟩ : ∃ w1, w.alloc (.cells #[.slice a0 n0 c0, .int .i64 rg, .slice wa wn wk, .slice a3 n3 c3, .slice a4 n4 c4, .slice a5 n5 c5] 28) = w1 := ⟨_, rfl⟩
  have hsz1 : w1.heap.size = w.heap.size + 1 := by rw [← hw1]; simp
  rw [hw1] at hx hb
  have HX : Hid (∀ W, Below w1.heap.size w1 W → (W.cell? ⟨w.heap.size, 0, none⟩ = some (.slice a0 n0 c0) ∧ W.cell? ⟨w.heap.size, 1, none⟩ = some (.int .i64 rg) ∧ W.cell? ⟨w.heap.size, 2, none⟩ = some (.slice wa wn wk) ∧ W.cell? ⟨w.heap.size, 3, none⟩ = some (.slice a3 n3 c3) ∧ W.cell? ⟨w.heap.size, 4, none⟩ = some (.slice a4 n4 c4) ∧ W.cell? ⟨w.heap.size, 5, none⟩ = some (.slice a5 n5 c5)) ∧ w.heap.size < W.heap.size ∧ Below w.heap.size w W) := Lib.hid (fun W hW => by
    have g := hx.below hW hx.lt
    exact ⟨⟨g.cell 0, g.cell 1, g.cell 2, g.cell 3, g.cell 4, g.cell 5⟩, g.lt, hb.trans (hW.mono (by omega))⟩)
  have HW1 := Lib.hid hw1
  simp only [PrV.agg] at HFe ⊢
  clear hx hb hw1 hsz1
  go_enter Tryd.func5, Tryd.ntmps5
  go_wp2_with fail
  refine HAw.out.mono ?_
  rintro e w2 ⟨rfl, hb2⟩
  rw [HW1.out] at hb2
  obtain ⟨⟨x0, x1, x2, x3, x4, x5⟩, lx, -⟩ := HX.out _ hb2
  have HB2 := Lib.hid hb2
  clear hb2 HAw
  go_wp2_with fail
  refine (HFe.out _).mono ?_
  rintro e w3 ⟨rfl, hb3⟩
  have HB3 := Lib.hid (HB2.out.trans (hb3.mono HB2.out.size))
  obtain ⟨⟨y0, y1, y2, y3, y4, y5⟩, ly, hw3⟩ := HX.out _ HB3.out
  have HW3 := Lib.hid hw3
  clear hb3 HB2 HFe x0 x1 x2 x3 x4 x5 lx hw3
  by_cases hfw : wn ≤ 40
  · rw [decide_eq_true hfw]
    obtain ⟨ws, hw⟩ := HWs.out (by show wn ≤ 1000000; omega)
    obtain rfl : wn = ws.length := hw.len
    have h64 : ws.length ≤ 64 := by omega
    have HP := Lib.hid (fun (W : World) (hW : Below w.heap.size w W) => reachP_any _ ws W (hw.below hW) (HTB.out _ hW).1 h64)
    have HQ := Lib.hid (fun (W : World) (hW : Below w.heap.size w W) => refReach_any _ ws W (hw.below hW) h64)
    simp only [PrV.agg] at HP HQ
    have HXc : Hid (∀ W, Below w3.heap.size w3 W → (W.cell? ⟨w.heap.size, 0, none⟩ = some (.slice a0 n0 c0) ∧ W.cell? ⟨w.heap.size, 1, none⟩ = some (.int .i64 rg) ∧ W.cell? ⟨w.heap.size, 2, none⟩ = some (.slice wa ws.length wk) ∧ W.cell? ⟨w.heap.size, 3, none⟩ = some (.slice a3 n3 c3) ∧ W.cell? ⟨w.heap.size, 4, none⟩ = some (.slice a4 n4 c4) ∧ W.cell? ⟨w.heap.size, 5, none⟩ = some (.slice a5 n5 c5)) ∧ w.heap.size < W.heap.size ∧ Below w.heap.size w W) := Lib.hid (fun W hW => HX.out W (HB3.out.trans (hW.mono HB3.out.size)))
    obtain ⟨⟨d0, d1, d2, d3, d4, d5⟩, ld, -⟩ := HXc.out w3.drew ((Below.refl _ w3).drew)
    have HB0 := Lib.hid ((Below.refl w3.heap.size w3).drew)
    clear HWs hw HX HB3 HTB HW1
    go_wp2
    go_cut [3, 4] (fun s t wx => ∃ (a b : Option Addr) (k l c d : Nat) (bs cs : Nat → Bool), s = .slice a k c ∧ t = .slice b l d ∧ Hid (k = ws.length ∧ l = ws.length ∧ ReachS ws bs ∧ ReachS ws cs ∧ (ws ≠ [] → ∃ (O : Nat) (us : List Value), a = some ⟨O, 0, none⟩ ∧ Has wx O 4 us ∧ ∀ x, x < ws.length → us[x]? = some (.bool (bs x))) ∧ (ws ≠ [] → ∃ (O : Nat) (us : List Value), b = some ⟨O, 0, none⟩ ∧ Has wx O 4 us ∧ ∀ x, x < ws.length → us[x]? = some (.bool (cs x))) ∧ Below w.heap.size w wx))
    case first =>
      go_region_with (first
        | (go_at_call 16
           refine (HP.out _ (HXc.out _ HB0.out).2.2).mono ?_
           rintro e w5 ⟨a, c, bs, rfl, hbs, hO, hb5⟩
           have p5 : Below w3.heap.size w3 w5 := HB0.out.trans (hb5.mono (by simp))
           have H5 := Lib.hid (⟨hbs, hO⟩ : _ ∧ _)
           obtain ⟨⟨v0, v1, v2, v3, v4, v5⟩, lv, -⟩ := HXc.out _ p5
           clear hbs hO hb5)
        | (go_at_call 17
           refine (HQ.out _ (HXc.out _ p5).2.2).mono ?_
           rintro e w6 ⟨b, d, cs, rfl, hcs, hU, hb6⟩
           have p6 : Below w3.heap.size w3 w6 := p5.trans (hb6.mono p5.size)
           have H6 := Lib.hid (⟨hcs, hU, ReachR.keep H5.out.2 (Keeps.below' hb6 [])⟩ : _ ∧ _ ∧ _)
           have l6 := (HXc.out _ p6).2.1
           clear hcs hU hb6))
      all_goals
        go_wp2_with fail
        go_meet
        exact ⟨a, b, _, _, c, d, bs, cs, rfl, rfl, Lib.hid ⟨rfl, rfl, H5.out.1, H6.out.1, H6.out.2.2, H6.out.2.1, (HXc.out _ p6).2.2⟩⟩
    case rest =>
      obtain ⟨a, b, k, l, c, d, bs, cs, rfl, rfl, HD⟩ := hcut
      obtain ⟨rfl, rfl, -⟩ := HD.out
      obtain ⟨m, hm⟩ : ∃ m, ws.length = m := ⟨_, rfl⟩
      have HM := Lib.hid hm
      have hm64 : m ≤ 64 := by omega
      have hmm : ((m : Int) != (m : Int)) = false := by simp
      have HK0 := Lib.hid (Keeps.refl [] wc)
      have HE : Hid (∀ W, Keeps [] wc W → (∀ x, x < m → ∃ (O U : Nat), a = some ⟨O, 0, none⟩ ∧ b = some ⟨U, 0, none⟩ ∧ W.cell? ⟨O, x, none⟩ = some (.bool (bs x)) ∧ W.cell? ⟨U, x, none⟩ = some (.bool (bs x)) ∧ O < W.heap.size ∧ U < W.heap.size) ∧ Below w.heap.size w W) := Lib.hid fun W hW => by
        obtain ⟨-, -, h1, h2, h3, h4, h5⟩ := HD.out
        refine ⟨fun x hx => ?_, h5.trans (hW.toBelow _ h5.size (by simp))⟩
        have hxw : x < ws.length := by rw [hm]; exact hx
        have hne : ws ≠ [] := by intro e; rw [e] at hxw; simp at hxw
        obtain ⟨O, us, e1, e2, e3⟩ := ReachR.keep h3 hW hne
        obtain ⟨U, vs, f1, f2, f3⟩ := ReachR.keep h4 hW hne
        refine ⟨O, U, e1, f1, (e2.cell x).trans (e3 x hxw), ?_, e2.lt, f2.lt⟩
        rw [reach_same h1 h2 hxw]
        exact (f2.cell x).trans (f3 x hxw)
      rw [hm]
      clear HD HP HQ HXc hm d0 d1 d2 d3 d4 d5 ld HB0 y0 y1 y2 y3 y4 y5 ly HW3
      go_wp2
      go_loopg [22] m (fun k i wr => ∃ j : Nat, i = .int .i64 (j : Int) ∧ j ≤ m ∧ k + j = m ∧ Hid (Keeps [] wc wr))
      case atStart => exact ⟨0, rfl, by omega, by omega, HK0⟩
      case round =>
        obtain ⟨j, rfl, hj, hk, HS⟩ := hrel
        by_cases hlt : j < m
        · have hi1 : (j : Int) < (m : Int) := by omega
          have hi0 : (0 : Int) ≤ (j : Int) := by omega
          obtain ⟨O, U, rfl, rfl, c1, c2, l1, l2⟩ := (HE.out wr HS.out).1 j hlt
          have hbb : (bs j != bs j) = false := by simp
          have HS2 : Hid (∀ n, Keeps [] wc (wr.drewN n)) := Lib.hid fun n => HS.out.trans (Keeps.drewN [] wr n) (by simp)
          generalize bs j = v at c1 c2 hbb
          clear HS
          go_wp2
          go_quiet (fail)
          go_wp2
          go_roundg (gk - 1)
          case measure => omega
          case rel => exact ⟨j + 1, by go_num, by omega, by omega, Lib.hid (HS2.out _)⟩
        · have HF := Lib.hid (HE.out wr HS.out).2
          have hjm : j = m := by omega
          subst hjm
          clear HE HS
          go_wp2
          go_ret
          exact ⟨rfl, HF.out⟩
  · rw [decide_eq_false hfw]
    clear HWs HX HB3 HTB HW1
    go_wp2
    go_ret
    exact ⟨rfl, HW3.out⟩
section
open Go.ChangeShapes
variable {H : Type} {enc : TypeId × Value → H}
set_option maxRecDepth 100000 in
theorem flowReach_w {r : Reach} {b0 : Nat} {d0 : DataW H} {p0 : List MemPlace} {s0 : Nat → Bool} (v0 : Value) (W : World) (g0 : Value.okWide Tryd.prog W r b0 28 v0) (h0 : DataW.Trod enc Tryd.prog W 0 s0 true 28 v0 d0 p0) (hT : Tabs W ∧ Bru W ∧ 0 < W.heap.size) :
    Calls Tryd.prog 5 #[v0] W fun e w' => e = .returned (.bool true) ∧ Below W.heap.size W w' := by
  obtain ⟨p, rfl, hp⟩ := open_proto g0 h0
  exact flowReach_u p W hp hT.1 hT.2.1 hT.2.2
end
end FlowD
end Go.Proofs.YtajhkogknpmnbaaDoor
