/- FlowOne. -/
import Derived.Test.YtajhkogknpmnbaaDoorFlowV
namespace Go.Proofs.YtajhkogknpmnbaaDoor
open Go.RowKit ObjM
namespace FlowD
open FlowM InstrM InstrD LabelD

theorem post_single {next : Nat → List Int} {m n : Nat} {z : Int} (hN : Nx next m) (hln : Live (nxO next) n) (h : next n = [z]) : PostSpec next m n z := by
  have hr := hN.r n z (by rw [h]; simp)
  have hx : nxO next n = [toO z] := by unfold nxO; rw [h]; rfl
  rcases hr with rfl | hr
  · refine .inl ⟨rfl, fun _ p _ hpn hc _ => ?_⟩
    rcases cut_step.1 hc with h1 | ⟨h1, _⟩
    · exact hpn h1
    · exact h1 (by rw [hx]; simp [toO])
  · obtain ⟨k, rfl⟩ := Int.eq_ofNat_of_zero_le hr.1
    have hk : toO (k : Int) = some k := (toO_some (.inr (by omega))).2 rfl
    rw [hk] at hx
    have hkn : k ≠ n := by
      rintro rfl
      exact way_not_round hx hln
    have hc : Cut (nxO next) n k := cut_step.2 (.inr ⟨by rw [hx]; simp, fun q hq => by rw [hx] at hq; simp at hq; subst hq; exact cut_self _⟩)
    refine .inr ⟨k, rfl, by omega, hln, hkn, hc, fun q hq hcq => ?_⟩
    rcases cut_step.1 hcq with h1 | ⟨_, h1⟩
    · exact absurd h1 hq
    · exact h1 k (by rw [hx]; simp)
theorem post_or {next : Nat → List Int} {m n : Nat} {y z : Int} (hN : Nx next m) (h : next n = [z]) (hy : PostSpec next m n y) : y = z ∨ y = -1 := by
  by_cases hl : Live (nxO next) n
  · exact .inl (post_unique hy (post_single hN hl h))
  · exact .inr (post_unique hy (post_dead hl))
set_option maxRecDepth 100000 in
set_option maxHeartbeats 16000000 in
theorem flowOne_u (p : PrV) (at_ : Int) (w : World) (ha : -9223372036854775808 ≤ at_ ∧ at_ ≤ 9223372036854775807) (hW : p.wn ≤ 1000000 → ∃ ws, WordsAt w p ws) (hT : Tabs w) (hBr : Bru w) (hgb : 0 < w.heap.size) :
    Calls Tryd.prog 7 #[p.agg, .int .i64 at_] w fun e w' => e = .returned (.bool true) ∧ Below w.heap.size w w' := by
  obtain ⟨hx, hb⟩ := pr_box w p
  have HTB : Hid (∀ W, Below w.heap.size w W → Tabs W ∧ Bru W ∧ 0 < W.heap.size) := Lib.hid fun W hW => ⟨hT.below hW, fun j hj => (hW.cell (p := ⟨_, j, none⟩) hgb).trans (hBr j hj), Nat.lt_of_lt_of_le hgb hW.size⟩
  have HFe := Lib.hid (fun W => few_any p W)
  have HAw := Lib.hid (awake_any _ (HTB.out _ hb).1 (HTB.out _ hb).2.1 (HTB.out _ hb).2.2)
  clear hT hBr hgb
  have HWs := Lib.hid hW
  clear hW
  obtain ⟨a0, n0, c0, rg, wa, wn, wk, a3, n3, c3, a4, n4, c4, a5, n5, c5⟩ := p
  simp only [PrV.cells] at hx hb HAw
  obtain ⟨w1, hw1⟩ : ∃ w1, w.alloc (.cells #[.slice a0 n0 c0, .int .i64 rg, .slice wa wn wk, .slice a3 n3 c3, .slice a4 n4 c4, .slice a5 n5 c5] 28) = w1 := ⟨_, rfl⟩
  have hsz1 : w1.heap.size = w.heap.size + 1 := by rw [← hw1]; simp
  rw [hw1] at hx hb
  have HX : Hid (∀ W, Below w1.heap.size w1 W → (W.cell? ⟨w.heap.size, 0, none⟩ = some (.slice a0 n0 c0) ∧ W.cell? ⟨w.heap.size, 1, none⟩ = some (.int .i64 rg) ∧ W.cell? ⟨w.heap.size, 2, none⟩ = some (.slice wa wn wk) ∧ W.cell? ⟨w.heap.size, 3, none⟩ = some (.slice a3 n3 c3) ∧ W.cell? ⟨w.heap.size, 4, none⟩ = some (.slice a4 n4 c4) ∧ W.cell? ⟨w.heap.size, 5, none⟩ = some (.slice a5 n5 c5)) ∧ w.heap.size < W.heap.size ∧ Below w.heap.size w W) := Lib.hid (fun W hW => by
    have g := hx.below hW hx.lt
    exact ⟨⟨g.cell 0, g.cell 1, g.cell 2, g.cell 3, g.cell 4, g.cell 5⟩, g.lt, hb.trans (hW.mono (by omega))⟩)
  have HW1 := Lib.hid hw1
  simp only [PrV.agg] at HFe ⊢
  clear hx hb hw1 hsz1
  go_enter Tryd.func7, Tryd.ntmps7
  go_wp2_with fail
  refine HAw.out.mono ?_
  rintro e w2 ⟨rfl, hb2⟩
  rw [HW1.out] at hb2
  obtain ⟨⟨x0, x1, x2, x3, x4, x5⟩, lx, -⟩ := HX.out _ hb2
  have HB2 := Lib.hid hb2
  clear hb2 HAw
  go_wp2_with fail
  refine (HFe.out _).mono ?_
  rintro e w3 ⟨rfl, hb3⟩
  have HB3 := Lib.hid (HB2.out.trans (hb3.mono HB2.out.size))
  obtain ⟨⟨y0, y1, y2, y3, y4, y5⟩, ly, hw3⟩ := HX.out _ HB3.out
  have HW3 := Lib.hid hw3
  clear hb3 HB2 HFe x0 x1 x2 x3 x4 x5 lx hw3
  by_cases hfw : wn ≤ 40
  · rw [decide_eq_true hfw]
    by_cases ha0 : at_ < 0
    · have hd : decide (at_ < 0) = true := decide_eq_true ha0
      clear HWs HX HB3 HTB HW1
      go_wp2
      go_ret
      exact ⟨rfl, HW3.out⟩
    have hd0 : decide (at_ < 0) = false := decide_eq_false ha0
    obtain ⟨n, rfl⟩ := Int.eq_ofNat_of_zero_le (show 0 ≤ at_ by omega)
    by_cases hnm : wn ≤ n
    · have hd : decide ((wn : Int) ≤ (n : Int)) = true := decide_eq_true (by omega)
      have hd2 : decide ((n : Int) ≥ (wn : Int)) = true := decide_eq_true (by omega)
      clear HWs HX HB3 HTB HW1
      go_wp2
      go_ret
      exact ⟨rfl, HW3.out⟩
    have hd1 : decide ((wn : Int) ≤ (n : Int)) = false := decide_eq_false (by omega)
    obtain ⟨ws, hw⟩ := HWs.out (by show wn ≤ 1000000; omega)
    obtain rfl : wn = ws.length := hw.len
    have h64 : ws.length ≤ 64 := by omega
    have HP := Lib.hid (fun (W : World) (hW : Below w.heap.size w W) => posts_any _ ws W (hw.below hW) (HTB.out _ hW).1 (HTB.out _ hW).2.1 (HTB.out _ hW).2.2 h64)
    have HQ := Lib.hid (fun (W : World) (hW : Below w.heap.size w W) => next_any _ ws (n : Int) W (hw.below hW) (by omega) (HTB.out _ hW).1)
    simp only [PrV.agg] at HP HQ
    have HXc : Hid (∀ W, Below w3.heap.size w3 W → (W.cell? ⟨w.heap.size, 0, none⟩ = some (.slice a0 n0 c0) ∧ W.cell? ⟨w.heap.size, 1, none⟩ = some (.int .i64 rg) ∧ W.cell? ⟨w.heap.size, 2, none⟩ = some (.slice wa ws.length wk) ∧ W.cell? ⟨w.heap.size, 3, none⟩ = some (.slice a3 n3 c3) ∧ W.cell? ⟨w.heap.size, 4, none⟩ = some (.slice a4 n4 c4) ∧ W.cell? ⟨w.heap.size, 5, none⟩ = some (.slice a5 n5 c5)) ∧ w.heap.size < W.heap.size ∧ Below w.heap.size w W) := Lib.hid (fun W hW => HX.out W (HB3.out.trans (hW.mono HB3.out.size)))
    obtain ⟨⟨d0, d1, d2, d3, d4, d5⟩, ld, -⟩ := HXc.out w3.drew ((Below.refl _ w3).drew)
    have HB0 := Lib.hid ((Below.refl w3.heap.size w3).drew)
    have HNX := Lib.hid (nx_of ws)
    have hNe : Hid (1 ≤ (nextV ws (n : Int)).length) := Lib.hid (by
      have h := nextV_ne (ws := ws) (k := n) (by omega)
      cases e : nextV ws (n : Int) with
      | nil => exact absurd e h
      | cons _ _ => simp)
    clear HWs hw HX HB3 HTB HW1
    go_wp2
    go_cut [5, 6] (fun s u wx => ∃ (F cF Q : Nat) (R : List Int), s = .slice (some ⟨F, 0, none⟩) (nextV ws (n : Int)).length cF ∧ u = .slice (some ⟨Q, 0, none⟩) ws.length ws.length ∧ Hid (RowAt wx F (nextV ws (n : Int)) ∧ RowAt wx Q R ∧ R.length = ws.length ∧ (∀ (k : Nat) (h : k < R.length), PostSpec (nextW ws) ws.length k R[k]) ∧ Below w3.heap.size w3 wx))
    case first =>
      go_region_with (first
        | (go_at_call 12
           refine (HQ.out _ (HXc.out _ HB0.out).2.2).mono ?_
           rintro e w5 ⟨v, rfl, ho5, hb5⟩
           have p5 : Below w3.heap.size w3 w5 := HB0.out.trans (hb5.mono (by simp))
           obtain ⟨F, cF, rfl, H5⟩ : ∃ F cF, v = .slice (some ⟨F, 0, none⟩) (nextV ws (n : Int)).length cF ∧ Hid (RowAt w5 F (nextV ws (n : Int))) := by
             rcases row_of_own ho5 with ⟨g1, _⟩ | ⟨F, cF, g2, _, g3⟩
             · exact absurd hNe.out (by rw [g1]; simp)
             · exact ⟨F, cF, g2, Lib.hid g3⟩
           obtain ⟨⟨v0, v1, v2, v3, v4, v5⟩, lv, -⟩ := HXc.out _ p5
           clear ho5 hb5)
        | (go_at_call 14
           refine (HP.out _ (HXc.out _ p5).2.2).mono ?_
           rintro e w6 ⟨Q, R, rfl, hQ, hrow6, hlen6, hsp6, hb6⟩
           have p6 : Below w3.heap.size w3 w6 := p5.trans (hb6.mono p5.size)
           have H6 := Lib.hid (⟨H5.out.below hb6 H5.out.lt, hrow6, hlen6, hsp6, p6⟩ : _ ∧ _ ∧ _ ∧ _ ∧ _)
           have l6 := (HXc.out _ p6).2.1
           clear hQ hrow6 hlen6 hsp6 hb6))
      all_goals
        go_wp2_with fail
        go_meet
        exact ⟨F, cF, Q, R, rfl, rfl, H6⟩
    case rest =>
      obtain ⟨F, cF, Q, R, rfl, rfl, HD⟩ := hcut
      obtain ⟨⟨z0, z1, z2, z3, z4, z5⟩, lz, hwc⟩ := HXc.out wc HD.out.2.2.2.2
      have HWc := Lib.hid hwc
      obtain ⟨m, hm⟩ : ∃ m, ws.length = m := ⟨_, rfl⟩
      have HM := Lib.hid hm
      have hnm2 : n < m := by omega
      have hmm : ((m : Int) != (m : Int)) = false := by simp
      have hmm2 : ((m : Int) == (m : Int)) = true := by simp
      have hn1 : (n : Int) < (m : Int) := by omega
      have hn0 : (0 : Int) ≤ (n : Int) := by omega
      have hcR : ∃ y, wc.cell? ⟨Q, n, none⟩ = some (.int .i64 y) ∧ PostSpec (nextW ws) ws.length n y := by
        obtain ⟨_, h2, h3, h4, _⟩ := HD.out
        exact ⟨_, h2.cell (by rw [h3, hm]; exact hnm2), h4 n (by rw [h3, hm]; exact hnm2)⟩
      obtain ⟨y, cy, hy⟩ := hcR
      have lQ := HD.out.2.1.lt
      have HYy := Lib.hid hy
      have hc0 := HD.out.1.cell (i := 0) (by have := hNe.out; omega)
      have lF := HD.out.1.lt
      rw [hm] at z2
      rw [hm]
      clear hwc hm HP HQ HXc d0 d1 d2 d3 d4 d5 ld HB0 y0 y1 y2 y3 y4 y5 ly HW3 hy HD hd1 hfw
      by_cases hone : (nextV ws (n : Int)).length = 1
      · obtain ⟨z, hz⟩ : ∃ z, nextV ws (n : Int) = [z] := by
          rcases hnx : nextV ws (n : Int) with _ | ⟨z, _ | ⟨y, r⟩⟩
          · rw [hnx] at hone; simp at hone
          · exact ⟨z, rfl⟩
          · rw [hnx] at hone; simp at hone
        have e0 : (nextV ws (n : Int))[0]'(by omega) = z := by simp [hz]
        rw [e0] at hc0
        have hor := post_or HNX.out (show nextW ws n = [z] from hz) HYy.out
        have h11 : ((1 : Int) != 1) = false := by simp
        rw [hone]
        clear e0 hz hone hNe
        by_cases hzn : z = (n : Int)
        · have hb : (z == (n : Int)) = true := by simp [hzn]
          clear hzn hor
          go_wp2
          go_ret
          exact ⟨rfl, HWc.out⟩
        · have hb : (z == (n : Int)) = false := by simpa using hzn
          clear hzn
          have HDr : Hid (∀ q, Below w.heap.size w (wc.drewN q)) := Lib.hid fun q => HWc.out.trans ((Keeps.drewN [] wc q).toBelow _ HWc.out.size (by simp))
          by_cases hyz : y = z
          · have hb2 : (y == z) = true := by simpa using hyz
            clear hor hyz
            go_wp2
            go_quiet (fail)
            go_wp2
            go_ret
            exact ⟨rfl, HDr.out _⟩
          · have hb2 : (y == z) = false := by simpa using hyz
            obtain rfl : y = -1 := by omega
            clear hor hyz
            go_wp2
            go_quiet (fail)
            go_wp2
            go_ret
            exact ⟨rfl, HDr.out _⟩
      · have hb : (((nextV ws (n : Int)).length : Int) != 1) = true := by simp; omega
        generalize (nextV ws (n : Int)).length = q at hb ⊢
        clear hone hc0 lF
        go_wp2
        go_ret
        exact ⟨rfl, HWc.out⟩
  · rw [decide_eq_false hfw]
    clear HWs HX HB3 HTB HW1
    go_wp2
    go_ret
    exact ⟨rfl, HW3.out⟩
section
open Go.ChangeShapes
variable {H : Type} {enc : TypeId × Value → H}
set_option maxRecDepth 100000 in
theorem flowOne_w {r : Reach} {b0 : Nat} {d0 : DataW H} {p0 : List MemPlace} {s0 : Nat → Bool} (v0 : Value) (at_ : Int) (ha : -9223372036854775808 ≤ at_ ∧ at_ ≤ 9223372036854775807) (W : World) (g0 : Value.okWide Tryd.prog W r b0 28 v0) (h0 : DataW.Trod enc Tryd.prog W 0 s0 true 28 v0 d0 p0) (hT : Tabs W ∧ Bru W ∧ 0 < W.heap.size) :
    Calls Tryd.prog 7 #[v0, .int .i64 at_] W fun e w' => e = .returned (.bool true) ∧ Below W.heap.size W w' := by
  obtain ⟨p, rfl, hp⟩ := open_proto g0 h0
  exact flowOne_u p at_ W ha hp hT.1 hT.2.1 hT.2.2
end
end FlowD
end Go.Proofs.YtajhkogknpmnbaaDoor
