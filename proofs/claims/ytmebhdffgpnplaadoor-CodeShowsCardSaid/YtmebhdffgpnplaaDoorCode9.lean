/- CodeShows. -/
import Derived.Test.YtmebhdffgpnplaaDoorCode7
import Derived.Test.YtmebhdffgpnplaaDoorCode8
import Derived.Test.YtmebhdffgpnplaaDoorCodeTabs
import Derived.Deep.RegionHeld3
import Derived.BigQuiet
namespace Go.Proofs.YtmebhdffgpnplaaDoor
open Go.RowKit ObjM
namespace CodeD
open InstrM InstrD FlowD LexD

set_option maxRecDepth 100000 in
set_option maxHeartbeats 16000000 in
theorem codeShows_u (p : PrV) (w : World) (hW : p.wn ≤ 1000000 → ∃ ws, WordsAt w p ws) (hT : Tabs w) (hP : Pow w) (hL : WTab w) :
    Calls Tryd.prog 4 #[p.agg] w fun e w' => e = .returned (.bool true) ∧ Below w.heap.size w w' := by
  obtain ⟨hx, hb⟩ := pr_box w p
  have HAw := Lib.hid (awake_any _ (hT.below hb) (hL.below hb))
  have HSh := Lib.hid (fun (ws : List Nat) (hw : WordsAt w p ws) (hl : ws.length ≤ 2000) (W : World) (hb : Below w.heap.size w W) => show_all p ws W (hw.below hb) hl (hT.below hb) (hP.below hb))
  have HRs := Lib.hid (fun (ws : List Nat) (hw : WordsAt w p ws) (hl : ws.length ≤ 2000) (W : World) (hb : Below w.heap.size w W) => refShow_all p ws W (hw.below hb) hl (hP.below hb))
  obtain ⟨a0, n0, c0, rg, wa, wn, wk, a3, n3, c3, a4, n4, c4, a5, n5, c5⟩ := p
  simp only [PrV.cells, PrV.agg] at hx hb HAw HSh HRs ⊢
  obtain ⟨W1, hW1⟩ : ∃ W1, w.alloc (.cells #[.slice a0 n0 c0, .int .i64 rg, .slice wa wn wk, .slice a3 n3 c3, .slice a4 n4 c4, .slice a5 n5 c5] 38) = W1 := ⟨_, rfl⟩
  rw [hW1] at hx hb HAw
  have HX : Hid (∀ W, Below W1.heap.size W1 W → (W.cell? ⟨w.heap.size, 0, none⟩ = some (.slice a0 n0 c0) ∧ W.cell? ⟨w.heap.size, 1, none⟩ = some (.int .i64 rg) ∧ W.cell? ⟨w.heap.size, 2, none⟩ = some (.slice wa wn wk) ∧ W.cell? ⟨w.heap.size, 3, none⟩ = some (.slice a3 n3 c3) ∧ W.cell? ⟨w.heap.size, 4, none⟩ = some (.slice a4 n4 c4) ∧ W.cell? ⟨w.heap.size, 5, none⟩ = some (.slice a5 n5 c5)) ∧ w.heap.size < W.heap.size ∧ Below w.heap.size w W) := Lib.hid fun W hW => by
    have g := hx.below hW hx.lt
    exact ⟨⟨g.cell 0, g.cell 1, g.cell 2, g.cell 3, g.cell 4, g.cell 5⟩, g.lt, hb.trans (hW.mono hb.size)⟩
  have HW1 := Lib.hid hW1
  have HWs := Lib.hid hW
  clear hx hb hW1 hW hT hP hL
  go_enter Tryd.func4, Tryd.ntmps4
  go_wp2_with fail
  rw [HW1.out]
  refine HAw.out.mono ?_
  rintro e w2 ⟨rfl, hb2⟩
  have HB2 := Lib.hid hb2
  obtain ⟨⟨x0, x1, x2, x3, x4, x5⟩, lx, -⟩ := HX.out _ hb2
  clear hb2 HAw HW1
  by_cases hm : wn ≤ 2000
  · obtain ⟨ws, hw⟩ := HWs.out (by show wn ≤ 1000000; omega)
    obtain rfl : wn = ws.length := hw.len
    have H1 := Lib.hid (HSh.out ws hw hm)
    have H2 := Lib.hid (HRs.out ws hw hm)
    have hmi : ¬ (2000 : Int) < (ws.length : Int) := by omega
    have hmd : decide ((2000 : Int) < (ws.length : Int)) = false := decide_eq_false hmi
    have HSS : Hid (∀ W', Below w2.heap.size w2 W' → (W'.cell? ⟨w.heap.size, 0, none⟩ = some (.slice a0 n0 c0) ∧ W'.cell? ⟨w.heap.size, 1, none⟩ = some (.int .i64 rg) ∧ W'.cell? ⟨w.heap.size, 2, none⟩ = some (.slice wa ws.length wk) ∧ W'.cell? ⟨w.heap.size, 3, none⟩ = some (.slice a3 n3 c3) ∧ W'.cell? ⟨w.heap.size, 4, none⟩ = some (.slice a4 n4 c4) ∧ W'.cell? ⟨w.heap.size, 5, none⟩ = some (.slice a5 n5 c5)) ∧ Below w.heap.size w W') := Lib.hid fun W' hW => by
      have h := HX.out W' (HB2.out.trans (hW.mono HB2.out.size))
      exact ⟨h.1, h.2.2⟩
    obtain ⟨tx, htx⟩ : ∃ tx : ByteArray, (⟨(showP ws ws.length).toArray⟩ : ByteArray) = tx := ⟨_, rfl⟩
    rw [htx] at H1 H2
    clear HSh HRs HWs hw htx HX
    go_wp2
    go_region_held3 (fun W' => W'.cell? ⟨w.heap.size, 0, none⟩ = some (.slice a0 n0 c0) ∧ W'.cell? ⟨w.heap.size, 1, none⟩ = some (.int .i64 rg) ∧ W'.cell? ⟨w.heap.size, 2, none⟩ = some (.slice wa ws.length wk) ∧ W'.cell? ⟨w.heap.size, 3, none⟩ = some (.slice a3 n3 c3) ∧ W'.cell? ⟨w.heap.size, 4, none⟩ = some (.slice a4 n4 c4) ∧ W'.cell? ⟨w.heap.size, 5, none⟩ = some (.slice a5 n5 c5))
      (first | exact (HSS.out _ (Below.refl _ _).drew).1 | exact (HSS.out _ p2).1 | exact (HSS.out _ p1).1 | skip)
      (first
        | (go_at_call 9
           refine (H1.out _ (HSS.out _ (Below.refl _ _).drew).2).mono ?_
           rintro e w5 ⟨rfl, hb5⟩
           have p1 := ((Below.refl w2.heap.size w2).drew).trans hb5)
        | (go_at_call 10
           refine (H2.out _ (HSS.out _ p1).2).mono ?_
           rintro e w6 ⟨rfl, hb6⟩
           have p2 := p1.trans (hb6.mono p1.size)))
    all_goals
      go_wp2
      go_ret
      exact ⟨rfl, (HSS.out _ p2).2⟩
  · have hmi : (2000 : Int) < (wn : Int) := by omega
    have hmd : decide ((2000 : Int) < (wn : Int)) = true := decide_eq_true hmi
    have HBe : Hid (∀ q, Below w.heap.size w (w2.drewN q)) := Lib.hid fun q => (HX.out _ (HB2.out.trans (TyD.drewN_below (Below.refl _ _) q |>.mono HB2.out.size))).2.2
    clear HSh HRs HWs HX
    go_wp2
    go_quiet (fail)
    go_wp2
    go_ret
    exact ⟨rfl, HBe.out _⟩
section
open Go.ChangeShapes
variable {H : Type} {enc : TypeId × Value → H}
set_option maxRecDepth 100000 in
theorem codeShows_w {r : Reach} {b0 : Nat} {d0 : DataW H} {p0 : List MemPlace} {s0 : Nat → Bool} (v0 : Value) (W : World) (g0 : Value.okWide Tryd.prog W r b0 38 v0) (h0 : DataW.Trod enc Tryd.prog W 0 s0 true 38 v0 d0 p0) (hT : Tabs W ∧ Pow W ∧ WTab W) :
    Calls Tryd.prog 4 #[v0] W fun e w' => e = .returned (.bool true) ∧ Below W.heap.size W w' := by
  obtain ⟨p, rfl, hp⟩ := open_proto g0 h0
  exact codeShows_u p W hp hT.1 hT.2.1 hT.2.2
end
end CodeD
end Go.Proofs.YtmebhdffgpnplaaDoor
