/- FlowMeets. -/
import Derived.Test.YtajhkogknpmnbaaDoorFlowX
namespace Go.Proofs.YtajhkogknpmnbaaDoor
open Go.RowKit ObjM
namespace FlowD
open FlowM InstrM InstrD LabelD

open Classical in
/-- How many places lie on each way from one. -/
noncomputable def cntC (next : Nat → List Int) (m n : Nat) : Nat := (List.range m).countP fun x => decide (Cut (nxO next) n x)
open Classical in
theorem cnt_pos {next : Nat → List Int} {m n : Nat} (h : n < m) : 1 ≤ cntC next m n := by
  unfold cntC
  exact List.countP_pos_iff.2 ⟨n, List.mem_range.2 h, decide_eq_true (cut_self n)⟩
open Classical in
theorem cnt_le {next : Nat → List Int} {m n : Nat} : cntC next m n ≤ m := by
  have := List.countP_le_length (p := fun x => decide (Cut (nxO next) n x)) (l := List.range m)
  simpa [cntC] using this
open Classical in
theorem cnt_less {next : Nat → List Int} {m n p : Nat} (hn : n < m) (hl : Live (nxO next) n) (hc : Cut (nxO next) n p) (hpn : p ≠ n) : cntC next m p + 1 ≤ cntC next m n := by
  unfold cntC
  have h1 := count_but (g := fun x => decide (Cut (nxO next) n x)) (n := n) (l := List.range m) List.nodup_range (List.mem_range.2 hn) (decide_eq_true (cut_self n))
  rw [h1]
  refine Nat.succ_le_succ (List.countP_mono_left fun x _ hx => ?_)
  have hx := of_decide_eq_true hx
  rw [Bool.and_eq_true, decide_eq_true_eq, bne_iff_ne]
  refine ⟨cut_trans hc hx, ?_⟩
  rintro rfl
  exact hpn (cut_antisymm (live_cut hl hc) hx hc)
/-- Where the chain of nearest places stands. -/
def ChainS (next : Nat → List Int) (m c : Nat) (z : Int) : Prop := z = -1 ∨ ∃ x : Nat, z = (x : Int) ∧ x < m ∧ c + cntC next m x ≤ m
theorem ChainS.step {next : Nat → List Int} {m c x : Nat} {y : Int} (hx : x < m) (hc : c + cntC next m x ≤ m) (hy : PostSpec next m x y) : ChainS next m (c + 1) y := by
  rcases hy with ⟨rfl, _⟩ | ⟨p, rfl, hp, hl, hpx, hcut, _⟩
  · exact .inl rfl
  · exact .inr ⟨p, rfl, hp, by have := cnt_less hx hl hcut hpx; omega⟩
theorem post_range {next : Nat → List Int} {m n : Nat} {y : Int} (hy : PostSpec next m n y) : y ≠ (n : Int) ∧ -1 ≤ y ∧ y < m := by
  rcases hy with ⟨rfl, _⟩ | ⟨p, rfl, hp, hl, hpx, hcut, _⟩
  · omega
  · omega
set_option maxRecDepth 100000 in
set_option maxHeartbeats 16000000 in
theorem flowMeets_u (p : PrV) (at_ : Int) (w : World) (ha : -9223372036854775808 ≤ at_ ∧ at_ ≤ 9223372036854775807) (hW : p.wn ≤ 1000000 → ∃ ws, WordsAt w p ws) (hT : Tabs w) (hBr : Bru w) (hgb : 0 < w.heap.size) :
    Calls Tryd.prog 8 #[p.agg, .int .i64 at_] w fun e w' => e = .returned (.bool true) ∧ Below w.heap.size w w' := by
  obtain ⟨hx, hb⟩ := pr_box w p
  have HTB : Hid (∀ W, Below w.heap.size w W → Tabs W ∧ Bru W ∧ 0 < W.heap.size) := Lib.hid fun W hW => ⟨hT.below hW, fun j hj => (hW.cell (p := ⟨_, j, none⟩) hgb).trans (hBr j hj), Nat.lt_of_lt_of_le hgb hW.size⟩
  have HFe := Lib.hid (fun W => few_any p W)
  have HAw := Lib.hid (awake_any _ (HTB.out _ hb).1 (HTB.out _ hb).2.1 (HTB.out _ hb).2.2)
  clear hT hBr hgb
  have HWs := Lib.hid hW
  clear hW
  obtain ⟨a0, n0, c0, rg, wa, wn, wk, a3, n3, c3, a4, n4, c4, a5, n5, c5⟩ := p
  simp only [PrV.cells] at hx hb HAw
  obtain ⟨w1, hw1⟩ : ∃ w1, w.alloc (.cells #[.slice a0 n0 c0, .int .i64 rg, .slice wa wn wk, .slice a3 n3 c3, .slice a4 n4 c4, .slice a5 n5 c5] 28) = w1 := ⟨_, rfl⟩
  have hsz1 : w1.heap.size = w.heap.size + 1 := by rw [← hw1]; simp
  rw [hw1] at hx hb
  have HX : Hid (∀ W, Below w1.heap.size w1 W → (W.cell? ⟨w.heap.size, 0, none⟩ = some (.slice a0 n0 c0) ∧ W.cell? ⟨w.heap.size, 1, none⟩ = some (.int .i64 rg) ∧ W.cell? ⟨w.heap.size, 2, none⟩ = some (.slice wa wn wk) ∧ W.cell? ⟨w.heap.size, 3, none⟩ = some (.slice a3 n3 c3) ∧ W.cell? ⟨w.heap.size, 4, none⟩ = some (.slice a4 n4 c4) ∧ W.cell? ⟨w.heap.size, 5, none⟩ = some (.slice a5 n5 c5)) ∧ w.heap.size < W.heap.size ∧ Below w.heap.size w W) := Lib.hid (fun W hW => by
    have g := hx.below hW hx.lt
    exact ⟨⟨g.cell 0, g.cell 1, g.cell 2, g.cell 3, g.cell 4, g.cell 5⟩, g.lt, hb.trans (hW.mono (by omega))⟩)
  have HW1 := Lib.hid hw1
  simp only [PrV.agg] at HFe ⊢
  clear hx hb hw1 hsz1
  go_enter Tryd.func8, Tryd.ntmps8
  go_wp2_with fail
  refine HAw.out.mono ?_
  rintro e w2 ⟨rfl, hb2⟩
  rw [HW1.out] at hb2
  obtain ⟨⟨x0, x1, x2, x3, x4, x5⟩, lx, -⟩ := HX.out _ hb2
  have HB2 := Lib.hid hb2
  clear hb2 HAw
  go_wp2_with fail
  refine (HFe.out _).mono ?_
  rintro e w3 ⟨rfl, hb3⟩
  have HB3 := Lib.hid (HB2.out.trans (hb3.mono HB2.out.size))
  obtain ⟨⟨y0, y1, y2, y3, y4, y5⟩, ly, hw3⟩ := HX.out _ HB3.out
  have HW3 := Lib.hid hw3
  clear hb3 HB2 HFe x0 x1 x2 x3 x4 x5 lx hw3
  by_cases hfw : wn ≤ 40
  · rw [decide_eq_true hfw]
    by_cases ha0 : at_ < 0
    · have hd : decide (at_ < 0) = true := decide_eq_true ha0
      clear HWs HX HB3 HTB HW1
      go_wp2
      go_ret
      exact ⟨rfl, HW3.out⟩
    have hd0 : decide (at_ < 0) = false := decide_eq_false ha0
    obtain ⟨n, rfl⟩ := Int.eq_ofNat_of_zero_le (show 0 ≤ at_ by omega)
    by_cases hnm : wn ≤ n
    · have hd : decide ((wn : Int) ≤ (n : Int)) = true := decide_eq_true (by omega)
      have hd2 : decide ((n : Int) ≥ (wn : Int)) = true := decide_eq_true (by omega)
      clear HWs HX HB3 HTB HW1
      go_wp2
      go_ret
      exact ⟨rfl, HW3.out⟩
    have hd1 : decide ((wn : Int) ≤ (n : Int)) = false := decide_eq_false (by omega)
    obtain ⟨ws, hw⟩ := HWs.out (by show wn ≤ 1000000; omega)
    obtain rfl : wn = ws.length := hw.len
    have h64 : ws.length ≤ 64 := by omega
    have HP := Lib.hid (fun (W : World) (hW : Below w.heap.size w W) => posts_any _ ws W (hw.below hW) (HTB.out _ hW).1 (HTB.out _ hW).2.1 (HTB.out _ hW).2.2 h64)
    simp only [PrV.agg] at HP
    have HXc : Hid (∀ W, Below w3.heap.size w3 W → (W.cell? ⟨w.heap.size, 0, none⟩ = some (.slice a0 n0 c0) ∧ W.cell? ⟨w.heap.size, 1, none⟩ = some (.int .i64 rg) ∧ W.cell? ⟨w.heap.size, 2, none⟩ = some (.slice wa ws.length wk) ∧ W.cell? ⟨w.heap.size, 3, none⟩ = some (.slice a3 n3 c3) ∧ W.cell? ⟨w.heap.size, 4, none⟩ = some (.slice a4 n4 c4) ∧ W.cell? ⟨w.heap.size, 5, none⟩ = some (.slice a5 n5 c5)) ∧ w.heap.size < W.heap.size ∧ Below w.heap.size w W) := Lib.hid (fun W hW => HX.out W (HB3.out.trans (hW.mono HB3.out.size)))
    have HP3 := Lib.hid (HP.out w3 HW3.out)
    clear HWs hw HX HB3 HTB HW1 HP
    go_wp2_with fail
    refine HP3.out.mono ?_
    rintro e w6 ⟨Q, R, rfl, hQ, hrow, hlen, hsp, hb6⟩
    obtain ⟨⟨z0, z1, z2, z3, z4, z5⟩, lz, hwc⟩ := HXc.out w6 hb6
    have HDr : Hid (∀ q, Below w.heap.size w (w6.drewN q)) := Lib.hid fun q => hwc.trans ((Keeps.drewN [] w6 q).toBelow _ hwc.size (by simp))
    have HWc := Lib.hid hwc
    obtain ⟨m, hm⟩ : ∃ m, ws.length = m := ⟨_, rfl⟩
    have hnm2 : n < m := by omega
    have hm64 : m ≤ 64 := by omega
    have hmm : ((m : Int) != (m : Int)) = false := by simp
    have hn1 : (n : Int) < (m : Int) := by omega
    have hn0 : (0 : Int) ≤ (n : Int) := by omega
    have HRw : Hid (∀ x : Nat, x < m → ∃ y, (∀ q, (w6.drewN q).cell? ⟨Q, x, none⟩ = some (.int .i64 y)) ∧ PostSpec (nextW ws) m x y) := Lib.hid fun x hx => by
      rw [hm] at hlen hsp
      exact ⟨_, fun q => (hrow.keeps (Keeps.drewN [] w6 q) (by simp)).cell (by rw [hlen]; exact hx), hsp x (by rw [hlen]; exact hx)⟩
    have lQ := hrow.lt
    obtain ⟨y, cy, hy⟩ := HRw.out n hnm2
    have cy0 : w6.cell? ⟨Q, n, none⟩ = some (.int .i64 y) := cy 0
    obtain ⟨hyn, hy1, hym⟩ := post_range hy
    have hb1 : (y == (n : Int)) = false := by simpa using hyn
    have hb2 : decide (y < -1) = false := decide_eq_false (by omega)
    have hb3 : decide ((m : Int) ≤ y) = false := decide_eq_false (by omega)
    have HY := Lib.hid (ChainS.step (c := 0) hnm2 (by rw [Nat.zero_add]; exact cnt_le) hy)
    have HY0 : Hid (ChainS (nextW ws) m 0 (n : Int)) := Lib.hid (.inr ⟨n, rfl, hnm2, by rw [Nat.zero_add]; exact cnt_le⟩)
    rw [hm] at z2
    rw [hm]
    clear hwc hm HP3 HXc y0 y1 y2 y3 y4 y5 ly HW3 hy hd1 hfw hQ hrow hlen hsp hb6 cy hyn
    go_wp2
    go_quiet (fail)
    have cyq : (w6.drewN nq).cell? ⟨Q, n, none⟩ = some (.int .i64 y) := cy0
    by_cases hym1 : y = -1
    · subst hym1
      go_wp2
      go_ret
      exact ⟨rfl, HDr.out _⟩
    · have hb4 : (y == -1) = false := by simpa using hym1
      clear hym1 HY
      go_wp2
      go_loopg [6, 7] (m + 1) (fun k nv iv wr => ∃ (c : Nat) (z : Int), nv = .int .i64 z ∧ iv = .int .i64 (c : Int) ∧ c ≤ m ∧ k + c = m + 1 ∧ Hid (ChainS (nextW ws) m c z) ∧ w6.drewN nq = wr)
      case atStart => exact ⟨0, (n : Int), rfl, rfl, by omega, by omega, HY0, rfl⟩
      case round =>
        obtain ⟨c, z, rfl, rfl, hc, hk, HC, rfl⟩ := hrel
        have zq : (w6.drewN nq).cell? ⟨w.heap.size, 2, none⟩ = some (.slice wa m wk) := z2
        have hcm : (c : Int) ≤ (m : Int) := by omega
        have hcw : IntKind.i64.wrap ((c : Int) + 1) = (c : Int) + 1 := IntWalk.i64_in _ (by omega)
        by_cases hz1 : z = -1
        · subst hz1
          clear HC
          go_wp2
          go_ret
          exact ⟨rfl, HDr.out _⟩
        · have hzb : (z == -1) = false := by simpa using hz1
          rcases HC.out with h | ⟨x, rfl, hxm, hcx⟩
          · exact absurd h hz1
          obtain ⟨y2, cy2, hy2⟩ := HRw.out x hxm
          have cyx := cy2 nq
          have HE := Lib.hid (HC.out.elim (fun h => absurd h hz1) (fun _ => ChainS.step hxm hcx hy2))
          have hpos := cnt_pos (next := nextW ws) hxm
          have hc1 : c + 1 ≤ m := by omega
          have hx1 : (x : Int) < (m : Int) := by omega
          have hx0 : (0 : Int) ≤ (x : Int) := by omega
          clear HC hz1 cy2 hy2 hcx hpos
          go_wp2
          go_roundg (gk - 1)
          case measure => omega
          case rel => exact ⟨c + 1, y2, rfl, by go_num, hc1, by omega, HE, by first | rfl | trivial⟩
  · rw [decide_eq_false hfw]
    clear HWs HX HB3 HTB HW1
    go_wp2
    go_ret
    exact ⟨rfl, HW3.out⟩
section
open Go.ChangeShapes
variable {H : Type} {enc : TypeId × Value → H}
set_option maxRecDepth 100000 in
theorem flowMeets_w {r : Reach} {b0 : Nat} {d0 : DataW H} {p0 : List MemPlace} {s0 : Nat → Bool} (v0 : Value) (at_ : Int) (ha : -9223372036854775808 ≤ at_ ∧ at_ ≤ 9223372036854775807) (W : World) (g0 : Value.okWide Tryd.prog W r b0 28 v0) (h0 : DataW.Trod enc Tryd.prog W 0 s0 true 28 v0 d0 p0) (hT : Tabs W ∧ Bru W ∧ 0 < W.heap.size) :
    Calls Tryd.prog 8 #[v0, .int .i64 at_] W fun e w' => e = .returned (.bool true) ∧ Below W.heap.size W w' := by
  obtain ⟨p, rfl, hp⟩ := open_proto g0 h0
  exact flowMeets_u p at_ W ha hp hT.1 hT.2.1 hT.2.2
end
end FlowD
end Go.Proofs.YtajhkogknpmnbaaDoor
