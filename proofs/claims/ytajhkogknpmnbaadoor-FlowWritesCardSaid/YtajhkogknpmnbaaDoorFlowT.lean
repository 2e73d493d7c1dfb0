/- What is reached. -/
import Derived.Test.YtajhkogknpmnbaaDoorFlowR
import Derived.Deep.RegionWith
namespace Go.Proofs.YtajhkogknpmnbaaDoor
open Go.RowKit ObjM
namespace FlowD
open FlowM InstrM InstrD

/-- What is reached, as bools. -/
def reachC (m : Nat) (bs : Nat → Bool) : List Value := (List.range m).map fun x => Value.bool (bs x)
def ReachS (ws : List Nat) (bs : Nat → Bool) : Prop := ∀ x, x < ws.length → (bs x = true ↔ Come ([0].map toO) (nxO (nextW ws)) (fun _ => false) x)
theorem reach_same {ws : List Nat} {bs cs : Nat → Bool} (h : ReachS ws bs) (k : ReachS ws cs) {x : Nat} (hx : x < ws.length) : bs x = cs x := by
  rw [Bool.eq_iff_iff, h x hx, k x hx]
set_option maxRecDepth 100000 in
theorem reach1_any (p : PrV) (ws : List Nat) (bx n : Nat) (W : World) (hw : WordsAt W p ws) (hT : Tabs W) (hn : n ≤ 1000000) (hb : Has W bx 28 p.cells) :
    Calls Tryd.prog 33 #[.int .i64 (n : Int), .pointer (some ⟨bx, 0, none⟩)] W (IntsIs W (nextV ws (n : Int))) := by
  have HN := Lib.hid (next_any p ws (n : Int) W hw (by omega) hT)
  have l := hb.lt
  obtain ⟨a0, n0, c0, rg, wa, wn, wk, a3, n3, c3, a4, n4, c4, a5, n5, c5⟩ := p
  have x0 := hb.cell 0
  have x1 := hb.cell 1
  have x2 := hb.cell 2
  have x3 := hb.cell 3
  have x4 := hb.cell 4
  have x5 := hb.cell 5
  simp only [PrV.cells, List.getElem?_cons_zero, List.getElem?_cons_succ] at x0 x1 x2 x3 x4 x5
  simp only [PrV.agg] at HN
  clear hw hT hb
  go_enter Tryd.func33, Tryd.ntmps33
  go_wp2_with fail
  refine HN.out.mono ?_
  rintro e w2 ⟨v, rfl, ho, hb2⟩
  have HE : Hid (IntsIs W (nextV ws (n : Int)) (.returned v) w2) := Lib.hid ⟨v, rfl, ho, hb2⟩
  obtain ⟨a, k, c, rfl⟩ := own_slice_of ho
  clear HN ho hb2
  go_wp2
  go_ret
  exact HE.out
/-- What is handed back. -/
def ReachR (w : World) (ws : List Nat) (e : Ending) (w' : World) : Prop := ∃ (a : Option Addr) (c : Nat) (bs : Nat → Bool), e = .returned (.slice a ws.length c) ∧ ReachS ws bs ∧ (ws ≠ [] → ∃ (O : Nat) (cs : List Value), a = some ⟨O, 0, none⟩ ∧ Has w' O 4 cs ∧ ∀ x, x < ws.length → cs[x]? = some (.bool (bs x))) ∧ Below w.heap.size w w'
def inB (R : List Int) (j : Nat) : Nat → Bool := fun x => decide ((x : Int) ∈ R.take j)
theorem reachC_set {m j n : Nat} {R : List Int} (hj : j < R.length) (hn : R[j] = (n : Int)) (hnm : n < m) : (reachC m (inB R j)).set n (.bool true) = reachC m (inB R (j + 1)) := by
  unfold reachC
  apply List.ext_getElem?
  intro i
  rw [List.getElem?_set]
  by_cases hi : i < m
  · rw [List.getElem?_map, List.getElem?_map, List.getElem?_range hi]
    have e9 : inB R (j + 1) i = (inB R j i || decide (n = i)) := by
      unfold inB
      rw [List.take_succ_eq_append_getElem hj, hn, Bool.eq_iff_iff]
      simp only [decide_eq_true_eq, List.mem_append, List.mem_singleton, Bool.or_eq_true]
      refine or_congr Iff.rfl ?_
      omega
    by_cases e : n = i
    · subst e
      simp [e9, hi]
    · simp [e9, e]
  · rw [List.getElem?_eq_none (by simp; omega), List.getElem?_eq_none (by simp; omega), if_neg (by omega)]
theorem reachC_zero (m : Nat) (R : List Int) : reachC m (inB R 0) = List.replicate m (.bool false) := by
  apply List.ext_getElem?
  intro i
  unfold reachC
  rw [List.getElem?_map, List.getElem?_replicate]
  by_cases hi : i < m
  · rw [List.getElem?_range hi, if_pos hi]
    simp [inB]
  · rw [List.getElem?_eq_none (by simp; omega), if_neg hi]
    rfl
theorem reachC_get {m x : Nat} {bs : Nat → Bool} (h : x < m) : (reachC m bs)[x]? = some (.bool (bs x)) := by
  unfold reachC
  rw [List.getElem?_map, List.getElem?_range h]
  rfl
theorem mem_start {ws : List Nat} (h : 1 ≤ ws.length) : ∀ z ∈ ([0] : List Int), z = -1 ∨ 0 ≤ z ∧ z < ws.length := by
  intro z hz
  simp at hz
  omega
set_option maxRecDepth 100000 in
set_option maxHeartbeats 16000000 in
theorem reach_some (p : PrV) (ws : List Nat) (w : World) (hw : WordsAt w p ws) (hT : Tabs w) (h1 : 1 ≤ ws.length) (h64 : ws.length ≤ 64) : Calls Tryd.prog 16 #[p.agg] w (ReachR w ws) := by
  obtain ⟨a0, n0, c0, rg, wa, wn, wk, a3, n3, c3, a4, n4, c4, a5, n5, c5⟩ := p
  obtain rfl : wn = ws.length := hw.len
  obtain ⟨hx, hb⟩ := pr_box w ⟨a0, n0, c0, rg, wa, ws.length, wk, a3, n3, c3, a4, n4, c4, a5, n5, c5⟩
  obtain ⟨i0, hi, hz0, hz1, hz2⟩ := info_bool
  obtain ⟨w1, hw1⟩ : ∃ w1, w.alloc (.cells #[.slice a0 n0 c0, .int .i64 rg, .slice wa ws.length wk, .slice a3 n3 c3, .slice a4 n4 c4, .slice a5 n5 c5] 28) = w1 := ⟨_, rfl⟩
  have hsz1 : w1.heap.size = w.heap.size + 1 := by rw [← hw1]; simp
  simp only at hx hb
  rw [hw1] at hx hb
  have HW : Hid (∀ W, Below w1.heap.size w1 W → WordsAt W ⟨a0, n0, c0, rg, wa, ws.length, wk, a3, n3, c3, a4, n4, c4, a5, n5, c5⟩ ws ∧ Tabs W ∧ Has W w.heap.size 28 (PrV.cells ⟨a0, n0, c0, rg, wa, ws.length, wk, a3, n3, c3, a4, n4, c4, a5, n5, c5⟩) ∧ Below w.heap.size w W) := Lib.hid fun W hW => by
    have h := hb.trans (hW.mono (by omega))
    exact ⟨hw.below h, hT.below h, hx.below hW (by omega), h⟩
  have HNX := Lib.hid (nx_of ws)
  have HSt := Lib.hid (mem_start h1)
  have x2 := hx.cell 2
  have lx := hx.lt
  simp only [PrV.cells, List.getElem?_cons_zero, List.getElem?_cons_succ] at x2
  have HW1 := Lib.hid hw1
  have HS1 := Lib.hid hsz1
  rw [← hw1] at x2 lx
  unfold PrV.agg
  simp only
  obtain ⟨m, hm⟩ : ∃ m, ws.length = m := ⟨_, rfl⟩
  have HM := Lib.hid hm
  rw [hm] at h1 h64 HNX HSt HW x2 lx HW1 ⊢
  clear hx hb hw hT hm hw1 hsz1
  go_enter Tryd.func16, Tryd.ntmps16
  go_wp2_with (at_make; refine wpList_make_full _ rfl _ _ 35 rfl (w.heap.size + 1) 4 i0 (.bool false) 1 Tryd.underlying35 hi hz0 hz1 .i64 .i64 (m : Int) (m : Int) m rfl rfl rfl rfl ?c1 ?c2 ?c3 ?_)
  case c1 => rw [hz2]; omega
  case c2 => unfold maxLen; omega
  case c3 => simp
  intro w2 hrow hgrow
  have hh := made_has hrow
  rw [HW1.out] at hgrow
  have hb2 : Below (w.heap.size + 1) w1 w2 := (Below.refl _ w1).grown hgrow (by rw [HS1.out]; exact Nat.le_refl _) (fun k hk => by cases hk)
  have HB2 : Hid (Below w1.heap.size w1 w2) := Lib.hid (by rw [HS1.out]; exact hb2)
  have HO := Lib.hid hh
  have hxb := (HW.out _ HB2.out).2.2.1
  have y2 := hxb.cell 2
  have ly := hxb.lt
  simp only [PrV.cells, List.getElem?_cons_zero, List.getElem?_cons_succ] at y2
  have hm0 : ((m : Int) == 0) = false := by simp; omega
  clear hrow hgrow hh hb2 hi hz0 hz1 hz2 x2 lx hxb
  go_wp2_with fail
  obtain ⟨w3, hw3⟩ : ∃ w3, w2.alloc (.cells #[.int .i64 0] 3) = w3 := ⟨_, rfl⟩
  have hZ : Has w3 w2.heap.size 3 [.int .i64 0] := by rw [← hw3]; exact Has.new w2 3 _
  have hb3 : Below w2.heap.size w2 w3 := by rw [← hw3]; exact (Below.refl _ w2).alloc (Nat.le_refl _) _
  have HN := Lib.hid (newSet_one (m : Int) (by omega) (by omega) w3)
  have HZ := Lib.hid hZ
  have HB3 := Lib.hid hb3
  rw [hw3]
  clear hw3 hZ hb3 y2 ly hm0
  refine HN.out.mono ?_
  rintro e w4 ⟨rfl, hs4, hb4⟩
  have hb14 : Below w1.heap.size w1 w4 := (HB2.out.trans (HB3.out.mono HB2.out.size)).trans (hb4.mono (Nat.le_trans HB2.out.size HB3.out.size))
  have hG4 : w3.heap.size < w4.heap.size := hs4.lt
  have HSp := Lib.hid (spread_reach w.heap.size w3.heap.size 0 m h64 (.slice (some ⟨w2.heap.size, 0, none⟩) 1 1) [0] (nextW ws) w4 hG4 hs4 (by decide) (.inr ⟨_, 1, rfl, ⟨_, HZ.out.below hb4 HZ.out.lt, fun i hi => by
      have : i = 0 := by simpa using hi
      subst this
      rfl⟩, .inr (Nat.zero_le _)⟩) (by simp) HSt.out (fun n hn => ⟨by have := HNX.out.l n; omega, HNX.out.r n⟩) (fun n W hn hW hsz => by
    have hW1 : Below w1.heap.size w1 W := hb14.trans (hW.mono (Nat.le_trans HB2.out.size HB3.out.size))
    obtain ⟨g1, g2, g3, g4⟩ := HW.out W hW1
    refine (reach1_any _ ws w.heap.size n W g1 g2 (by omega) g3).mono ?_
    rintro e W' ⟨v, rfl, ho, hbW⟩
    refine ⟨v, rfl, ?_, hbW⟩
    rcases row_of_own ho with ⟨g5, g6⟩ | ⟨g, cap, g6, g7, g8⟩
    · exact .inl ⟨g6, g5⟩
    · exact .inr ⟨g, cap, g6, g8, .inr g7⟩))
  have HO4 : Hid (Has w4 (w.heap.size + 1) 4 (List.replicate m (.bool false)) ∧ w.heap.size + 1 < w3.heap.size ∧ Below w1.heap.size w1 w4) := Lib.hid ⟨(HO.out.below HB3.out HO.out.lt).below hb4 (Nat.lt_of_lt_of_le HO.out.lt HB3.out.size), Nat.lt_of_lt_of_le HO.out.lt HB3.out.size, hb14⟩
  have HG4 := Lib.hid hG4
  clear HN HO HB2 HB3 HZ hs4 hb4 hb14 hG4
  go_wp2_with fail
  refine HSp.out.mono ?_
  rintro e w5 ⟨v, st, rfl, ho, hsp, hli, hb5⟩
  have hmem := spd_end (fun z hz => (HSt.out z hz).imp id (fun h => ⟨h.1, by omega⟩)) (fun n _ z hz => (HNX.out.r n z hz).imp id (fun h => ⟨h.1, by omega⟩)) hsp
  obtain ⟨st1, R⟩ := st
  simp only at ho hsp hli hmem
  have HR : Hid ((∀ z ∈ R, 0 ≤ z ∧ z < m) ∧ (∀ x : Nat, (x : Int) ∈ R ↔ Come ([0].map toO) (nxO (nextW ws)) (fun _ => false) x)) := Lib.hid ⟨fun z hz => ⟨(hsp.s.pos z hz).1, hli z hz⟩, fun x => by
    rw [hmem x]
    have e2 : (fun n => (0 : Nat).testBit n) = fun _ => false := by funext n; simp
    rw [e2]
    exact Iff.rfl⟩
  have hl64 : R.length ≤ 64 := hsp.s.len
  obtain ⟨va, vk, vc, rfl⟩ := own_slice_of ho
  obtain ⟨rfl, hRo⟩ := rowV_of ho
  have HO5 : Hid (Has w5 (w.heap.size + 1) 4 (reachC m (inB R 0)) ∧ Below (w.heap.size + 1) w5 w5 ∧ Below w1.heap.size w1 w5) := Lib.hid ⟨by
    rw [reachC_zero]
    exact HO4.out.1.below hb5 HO4.out.2.1, Below.refl _ _, HO4.out.2.2.trans (hb5.mono (by have := HO4.out.2.1; rw [HS1.out]; omega))⟩
  have HRo : Hid (∀ W, Keeps [w.heap.size + 1] w5 W → R ≠ [] → ∃ g, va = some ⟨g, 0, none⟩ ∧ RowAt W g R) := Lib.hid fun W hW h => by
    obtain ⟨g, g1, g2⟩ := hRo h
    obtain ⟨fcs, hf, hfi⟩ := g2
    exact ⟨g, g1, fcs, hf.keeps hW (by simpa using hf.ne HO5.out.1 (by decide)), hfi⟩
  clear HSp HO4 HG4 ho hsp hli hb5 hmem hRo
  obtain ⟨L, hL⟩ : ∃ L, R.length = L := ⟨_, rfl⟩
  have HL := Lib.hid hL
  rw [hL] at hl64 ⊢
  clear hL
  go_wp2
  go_loopg [22] L (fun k i wr => ∃ j : Nat, i = .int .i64 (j : Int) ∧ j ≤ L ∧ k + j = L ∧ Hid (Has wr (w.heap.size + 1) 4 (reachC m (inB R j)) ∧ Keeps [w.heap.size + 1] w5 wr))
  case atStart => exact ⟨0, rfl, by omega, by omega, Lib.hid ⟨HO5.out.1, Keeps.refl _ _⟩⟩
  case round =>
    obtain ⟨j, rfl, hj, hk, HS⟩ := hrel
    by_cases hlt : j < L
    · have hi1 : (j : Int) < (L : Int) := by omega
      have hi0 : (0 : Int) ≤ (j : Int) := by omega
      have hjR : j < R.length := by rw [HL.out]; exact hlt
      obtain ⟨g, hvg, hrow⟩ := HRo.out wr HS.out.2 (by intro e; rw [e] at hjR; simp at hjR)
      subst hvg
      have hcj := hrow.cell hjR
      have hgl := hrow.lt
      have hz := HR.out.1 _ (List.getElem_mem hjR)
      have HV := Lib.hid (fun n h h2 => reachC_set (m := m) (n := n) hjR h h2)
      obtain ⟨z, hzj⟩ : ∃ z, R[j] = z := ⟨_, rfl⟩
      rw [hzj] at hcj hz
      obtain ⟨n, rfl⟩ := Int.eq_ofNat_of_zero_le hz.1
      have hn : n < m := by omega
      have hn1 : (n : Int) < (m : Int) := by omega
      have hn0 : (0 : Int) ≤ (n : Int) := by omega
      have HV2 := Lib.hid (HV.out n hzj hn)
      have hcO := (HS.out.1.cell n).trans (reachC_get hn)
      have hlO := HS.out.1.lt
      have hfO := HS.out.1.frozen n
      have HS2 : Hid (Has (wr.setCell ⟨w.heap.size + 1, n, none⟩ (.bool true)) (w.heap.size + 1) 4 (reachC m (inB R (j + 1))) ∧ Keeps [w.heap.size + 1] w5 (wr.setCell ⟨w.heap.size + 1, n, none⟩ (.bool true))) := Lib.hid ⟨by rw [← HV2.out]; exact HS.out.1.set n _, HS.out.2.trans (Keeps.set _ _ _ _) (by simp)⟩
      generalize inB R j n = old at hcO
      clear HV HV2 HS hzj hrow
      go_wp2
      go_roundg (gk - 1)
      case measure => omega
      case rel => exact ⟨j + 1, by go_num, by omega, by omega, HS2⟩
    · have hjm : j = L := by omega
      subst hjm
      have HF : Hid (ReachR w ws (.returned (.slice (some ⟨w.heap.size + 1, 0, none⟩) m m)) wr) := Lib.hid (by
        refine ⟨_, m, inB R R.length, by rw [HM.out], fun x hx => ?_, fun _ => ⟨_, _, rfl, HS.out.1, fun x hx => ?_⟩, ?_⟩
        · unfold inB
          rw [List.take_length, decide_eq_true_eq]
          exact HR.out.2 x
        · rw [HM.out] at hx
          rw [← HL.out]
          exact reachC_get hx
        · have h1 := (HW.out _ HO5.out.2.2).2.2.2
          exact h1.trans (HS.out.2.toBelow _ h1.size (fun x hx => by simp at hx; omega)))
      clear HS
      go_wp2
      go_ret
      exact HF.out
set_option maxRecDepth 100000 in
set_option maxHeartbeats 8000000 in
theorem reach_zero (p : PrV) (w : World) (hw : WordsAt w p []) : Calls Tryd.prog 16 #[p.agg] w (ReachR w []) := by
  obtain ⟨a0, n0, c0, rg, wa, wn, wk, a3, n3, c3, a4, n4, c4, a5, n5, c5⟩ := p
  obtain rfl : wn = 0 := hw.len
  obtain ⟨hx, hb⟩ := pr_box w ⟨a0, n0, c0, rg, wa, 0, wk, a3, n3, c3, a4, n4, c4, a5, n5, c5⟩
  obtain ⟨i0, hi, hz0, hz1, hz2⟩ := info_bool
  simp only [PrV.cells] at hx hb
  obtain ⟨w1, hw1⟩ : ∃ w1, w.alloc (.cells #[.slice a0 n0 c0, .int .i64 rg, .slice wa 0 wk, .slice a3 n3 c3, .slice a4 n4 c4, .slice a5 n5 c5] 28) = w1 := ⟨_, rfl⟩
  have hsz1 : w1.heap.size = w.heap.size + 1 := by rw [← hw1]; simp
  rw [hw1] at hx hb
  have HX := Lib.hid hx
  have HB := Lib.hid hb
  have x2 := hx.cell 2
  have lx := hx.lt
  simp only [List.getElem?_cons_zero, List.getElem?_cons_succ] at x2
  have HW1 := Lib.hid hw1
  have HS1 := Lib.hid hsz1
  rw [← hw1] at x2 lx
  unfold PrV.agg
  simp only
  clear hx hb hw hw1 hsz1
  go_enter Tryd.func16, Tryd.ntmps16
  go_wp2_with (at_make; refine wpList_make_full _ rfl _ _ 35 rfl (w.heap.size + 1) 4 i0 (.bool false) 1 Tryd.underlying35 hi hz0 hz1 .i64 .i64 (0 : Int) (0 : Int) 0 rfl rfl rfl rfl ?c1 ?c2 ?c3 ?_)
  case c1 => rw [hz2]; omega
  case c2 => unfold maxLen; omega
  case c3 => simp
  intro w2 hrow hgrow
  rw [HW1.out] at hgrow
  have hb2 : Below w1.heap.size w1 w2 := (Below.refl _ w1).grown hgrow (Nat.le_refl _) (fun k hk => by cases hk)
  have h2 := HX.out.below hb2 HX.out.lt
  have y2 := h2.cell 2
  have ly := h2.lt
  simp only [List.getElem?_cons_zero, List.getElem?_cons_succ] at y2
  have HE : Hid (Below w.heap.size w w2) := Lib.hid (HB.out.trans (hb2.mono (by rw [HS1.out]; omega)))
  clear hrow hgrow hb2 h2 hi hz0 hz1 hz2 x2 lx HW1 HX HB HS1
  go_wp2
  go_ret
  exact ⟨none, 0, fun _ => false, rfl, fun x hx => by simp at hx, fun h => absurd rfl h, HE.out⟩
theorem reachP_any (p : PrV) (ws : List Nat) (w : World) (hw : WordsAt w p ws) (hT : Tabs w) (h64 : ws.length ≤ 64) : Calls Tryd.prog 16 #[p.agg] w (ReachR w ws) := by
  cases ws with
  | nil => exact reach_zero p w hw
  | cons x r => exact reach_some p (x :: r) w hw hT (by simp) h64
end FlowD
end Go.Proofs.YtajhkogknpmnbaaDoor
