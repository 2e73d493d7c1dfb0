/- The registers that are written: of what is no branch. (Written by mk_writesno.py.) -/
import Derived.Test.YtajhkogknpmnbaaDoorFlowZ7
namespace Go.Proofs.YtajhkogknpmnbaaDoor
open Go.RowKit ObjM
namespace FlowDz
open FlowD FlowM LabelM LabelD InstrM InstrD

def NoneIs (w : World) (e : Ending) (w' : World) : Prop := e = .returned (.slice none 0 0) ∧ Below w.heap.size w w'
set_option maxRecDepth 100000 in
theorem writes_out (p : PrV) (ws : List Nat) (pos : Int) (w : World) (hw : WordsAt w p ws) (h : pos < 0 ∨ (ws.length : Int) ≤ pos) : Calls Tryd.prog 18 #[p.agg, .int .i64 pos] w (NoneIs w) := by
  obtain ⟨hx, hb⟩ := pr_box w p
  have hlen := hw.len
  obtain ⟨a0, n0, c0, rg, wa, m, wk, a3, n3, c3, a4, n4, c4, a5, n5, c5⟩ := p
  simp only at hlen
  rw [← hlen] at h
  simp only [PrV.cells, PrV.agg] at hx hb ⊢
  have x2 := hx.cell 2
  have lx := hx.lt
  simp only [List.getElem?_cons_zero, List.getElem?_cons_succ] at x2
  have HB := Lib.hid hb
  clear hx hb hw hlen
  by_cases h0 : pos < 0
  · go_enter Tryd.func18, Tryd.ntmps18
    go_wp2
    go_ret
    exact ⟨rfl, HB.out⟩
  · have h1 : (m : Int) ≤ pos := by omega
    go_enter Tryd.func18, Tryd.ntmps18
    go_wp2
    go_ret
    exact ⟨rfl, HB.out⟩
set_option maxRecDepth 100000 in
theorem refWrites_out (p : PrV) (ws : List Nat) (pos : Int) (w : World) (hw : WordsAt w p ws) (h : pos < 0 ∨ (ws.length : Int) ≤ pos) : Calls Tryd.prog 19 #[p.agg, .int .i64 pos] w (NoneIs w) := by
  obtain ⟨hx, hb⟩ := pr_box w p
  have hlen := hw.len
  obtain ⟨a0, n0, c0, rg, wa, m, wk, a3, n3, c3, a4, n4, c4, a5, n5, c5⟩ := p
  simp only at hlen
  rw [← hlen] at h
  simp only [PrV.cells, PrV.agg] at hx hb ⊢
  have x2 := hx.cell 2
  have lx := hx.lt
  simp only [List.getElem?_cons_zero, List.getElem?_cons_succ] at x2
  have HB := Lib.hid hb
  clear hx hb hw hlen
  by_cases h0 : pos < 0
  · go_enter Tryd.func19, Tryd.ntmps19
    go_wp2
    go_ret
    exact ⟨rfl, HB.out⟩
  · have h1 : (m : Int) ≤ pos := by omega
    go_enter Tryd.func19, Tryd.ntmps19
    go_wp2
    go_ret
    exact ⟨rfl, HB.out⟩
set_option maxRecDepth 100000 in
set_option maxHeartbeats 8000000 in
theorem writes_no (p : PrV) (ws : List Nat) (n : Nat) (w : World) (hw : WordsAt w p ws) (hT : Tabs w) (hn : n < ws.length) (hno : okW (ws.getD n 0 : Nat) = false ∨ opW (ws.getD n 0 : Nat) ≠ 35 ∧ opW (ws.getD n 0 : Nat) ≠ 36) :
    Calls Tryd.prog 18 #[p.agg, .int .i64 (n : Int)] w (NoneIs w) := by
  obtain ⟨g, o, hwa, hg, hgc⟩ := hw.at_ n _ (getD_some hn)
  obtain ⟨hx, hb⟩ := pr_box w p
  obtain ⟨b, c, h⟩ := answer_a ((ws.getD n 0 : Nat) : Int)
  have hm : ws.getD n 0 ∈ ws := List.mem_of_getElem? (getD_some hn)
  have hlim := hw.lim _ hm
  have hlen := hw.len
  obtain ⟨a0, n0, c0, rg, wa, m, wk, a3, n3, c3, a4, n4, c4, a5, n5, c5⟩ := p
  simp only at hwa hlen
  subst hwa
  simp only [PrV.cells, PrV.agg] at hx hb ⊢
  obtain ⟨w1, hw1⟩ : ∃ w1, w.alloc (.cells #[.slice a0 n0 c0, .int .i64 rg, .slice (some ⟨g, o, none⟩) m wk, .slice a3 n3 c3, .slice a4 n4 c4, .slice a5 n5 c5] 28) = w1 := ⟨_, rfl⟩
  rw [hw1] at hx hb
  have hD := decode_w ((ws.getD n 0 : Nat) : Int) (by omega) (by omega) w1 (hT.below hb)
  rw [h] at hD
  have HD1 := Lib.hid hD
  have x2 := hx.cell 2
  have lx := hx.lt
  simp only [List.getElem?_cons_zero, List.getElem?_cons_succ] at x2
  have cw := (hb.cell (p := ⟨g, o + n, none⟩) hg).trans hgc
  have lg := Nat.lt_of_lt_of_le hg hb.size
  have HB := Lib.hid hb
  have HW1 := Lib.hid hw1
  have hnm : (n : Int) < (m : Int) := by omega
  have hn0i : (0 : Int) ≤ (n : Int) := by omega
  have hcase : (eW ((ws.getD n 0 : Nat) : Int) = 1) ∨ (eW ((ws.getD n 0 : Nat) : Int) = 0 ∧ opW ((ws.getD n 0 : Nat) : Int) ≠ 35 ∧ opW ((ws.getD n 0 : Nat) : Int) ≠ 36) := by
    rcases hno with h | h
    · left
      unfold eW
      rw [h]
      rfl
    · unfold eW
      split
      · exact .inr ⟨rfl, h⟩
      · exact .inl rfl
  generalize aW ((ws.getD n 0 : Nat) : Int) = ia at HD1
  generalize dW ((ws.getD n 0 : Nat) : Int) = idd at HD1
  generalize opW ((ws.getD n 0 : Nat) : Int) = op at HD1 hcase
  generalize eW ((ws.getD n 0 : Nat) : Int) = ie at HD1 hcase
  generalize ((ws.getD n 0 : Nat) : Int) = xn at cw HD1
  rw [← hw1] at x2 lx cw lg
  clear hx hb hw hD h hm hlim hlen hno hgc hg hw1 hT
  go_enter Tryd.func18, Tryd.ntmps18
  go_wp2_with fail
  rw [HW1.out]
  refine HD1.out.mono ?_
  rintro e w2 ⟨rfl, hb2⟩
  have HB2 : Hid (Below w.heap.size w (w2.alloc (.cells #[.int .i64 op, .int .i64 ia, .int .i64 b, .int .i64 c, .int .i64 idd] 39))) := Lib.hid ((HB.out.trans (hb2.mono HB.out.size)).alloc (Nat.le_trans HB.out.size hb2.size) _)
  clear hb2 x2 lx cw lg HD1
  rcases hcase with rfl | ⟨rfl, h35, h36⟩
  · go_wp2
    go_ret
    exact ⟨rfl, HB2.out⟩
  · have b35 : (op != 35) = true := by simpa using h35
    have b36 : (op != 36) = true := by simpa using h36
    go_wp2
    go_ret
    exact ⟨rfl, HB2.out⟩
set_option maxRecDepth 100000 in
set_option maxHeartbeats 8000000 in
theorem refWrites_no (p : PrV) (ws : List Nat) (n : Nat) (w : World) (hw : WordsAt w p ws) (hn : n < ws.length) (hno : okW (ws.getD n 0 : Nat) = false ∨ opW (ws.getD n 0 : Nat) ≠ 35 ∧ opW (ws.getD n 0 : Nat) ≠ 36) :
    Calls Tryd.prog 19 #[p.agg, .int .i64 (n : Int)] w (NoneIs w) := by
  obtain ⟨g, o, hwa, hg, hgc⟩ := hw.at_ n _ (getD_some hn)
  obtain ⟨hx, hb⟩ := pr_box w p
  obtain ⟨b, c, h⟩ := answer_a ((ws.getD n 0 : Nat) : Int)
  have hm : ws.getD n 0 ∈ ws := List.mem_of_getElem? (getD_some hn)
  have hlim := hw.lim _ hm
  have hlen := hw.len
  obtain ⟨a0, n0, c0, rg, wa, m, wk, a3, n3, c3, a4, n4, c4, a5, n5, c5⟩ := p
  simp only at hwa hlen
  subst hwa
  simp only [PrV.cells, PrV.agg] at hx hb ⊢
  obtain ⟨w1, hw1⟩ : ∃ w1, w.alloc (.cells #[.slice a0 n0 c0, .int .i64 rg, .slice (some ⟨g, o, none⟩) m wk, .slice a3 n3 c3, .slice a4 n4 c4, .slice a5 n5 c5] 28) = w1 := ⟨_, rfl⟩
  rw [hw1] at hx hb
  have hD := refDecode_any ((ws.getD n 0 : Nat) : Int) (by omega) (by omega) w1
  rw [h] at hD
  have HD1 := Lib.hid hD
  have x2 := hx.cell 2
  have lx := hx.lt
  simp only [List.getElem?_cons_zero, List.getElem?_cons_succ] at x2
  have cw := (hb.cell (p := ⟨g, o + n, none⟩) hg).trans hgc
  have lg := Nat.lt_of_lt_of_le hg hb.size
  have HB := Lib.hid hb
  have HW1 := Lib.hid hw1
  have hnm : (n : Int) < (m : Int) := by omega
  have hn0i : (0 : Int) ≤ (n : Int) := by omega
  have hcase : (eW ((ws.getD n 0 : Nat) : Int) = 1) ∨ (eW ((ws.getD n 0 : Nat) : Int) = 0 ∧ opW ((ws.getD n 0 : Nat) : Int) ≠ 35 ∧ opW ((ws.getD n 0 : Nat) : Int) ≠ 36) := by
    rcases hno with h | h
    · left
      unfold eW
      rw [h]
      rfl
    · unfold eW
      split
      · exact .inr ⟨rfl, h⟩
      · exact .inl rfl
  generalize aW ((ws.getD n 0 : Nat) : Int) = ia at HD1
  generalize dW ((ws.getD n 0 : Nat) : Int) = idd at HD1
  generalize opW ((ws.getD n 0 : Nat) : Int) = op at HD1 hcase
  generalize eW ((ws.getD n 0 : Nat) : Int) = ie at HD1 hcase
  generalize ((ws.getD n 0 : Nat) : Int) = xn at cw HD1
  rw [← hw1] at x2 lx cw lg
  clear hx hb hw hD h hm hlim hlen hno hgc hg hw1
  go_enter Tryd.func19, Tryd.ntmps19
  go_wp2_with fail
  rw [HW1.out]
  refine HD1.out.mono ?_
  rintro e w2 ⟨rfl, hb2⟩
  have HB2 : Hid (Below w.heap.size w (w2.alloc (.cells #[.int .i64 op, .int .i64 ia, .int .i64 b, .int .i64 c, .int .i64 idd] 39))) := Lib.hid ((HB.out.trans (hb2.mono HB.out.size)).alloc (Nat.le_trans HB.out.size hb2.size) _)
  clear hb2 x2 lx cw lg HD1
  rcases hcase with rfl | ⟨rfl, h35, h36⟩
  · go_wp2
    go_ret
    exact ⟨rfl, HB2.out⟩
  · have b35 : (op != 35) = true := by simpa using h35
    have b36 : (op != 36) = true := by simpa using h36
    go_wp2
    go_ret
    exact ⟨rfl, HB2.out⟩
/-- Both, whatever the place: the same registers. -/
def RowOf (w : World) (L : List Int) (e : Ending) (w' : World) : Prop := ∃ a k c, e = .returned (.slice a k c) ∧ RowV w' a k L ∧ L.length ≤ 256 ∧ Below w.heap.size w w'
theorem none_row {w : World} {e : Ending} {w' : World} (h : NoneIs w e w') : RowOf w [] e w' := by
  obtain ⟨rfl, hb⟩ := h
  exact ⟨none, 0, 0, rfl, ⟨rfl, fun h => absurd rfl h⟩, by simp, hb⟩
theorem wr_row {w : World} {P : (Nat → Bool) → Prop} {e : Ending} {w' : World} (h : WrIs w P e w') : ∃ f, P f ∧ RowOf w (regsL f) e w' := by
  obtain ⟨v, f, rfl, ho, hP, hb⟩ := h
  obtain ⟨a, k, c, rfl⟩ := own_slice_of ho
  exact ⟨f, hP, a, k, c, rfl, rowV_of ho, regs_len f, hb⟩
/-- Both Writes of a place. -/
def BothW (w : World) (Q : List Int → Prop) (e : Ending) (w' : World) : Prop := ∃ L, Q L ∧ RowOf w L e w'
def PQ (ws : List Nat) (pos : Int) (L : List Int) : Prop := (L = [] ∧ ¬ (0 ≤ pos ∧ pos < ws.length ∧ okW (ws.getD pos.toNat 0 : Nat) = true ∧ (opW (ws.getD pos.toNat 0 : Nat) = 35 ∨ opW (ws.getD pos.toNat 0 : Nat) = 36))) ∨ ∃ (n : Nat) (f : Nat → Bool), pos = (n : Int) ∧ n < ws.length ∧ okW (ws.getD n 0 : Nat) = true ∧ (opW (ws.getD n 0 : Nat) = 35 ∨ opW (ws.getD n 0 : Nat) = 36) ∧ WrP ws n f ∧ L = regsL f
def DQ (ws : List Nat) (pos : Int) (L : List Int) : Prop := (L = [] ∧ ¬ (0 ≤ pos ∧ pos < ws.length ∧ okW (ws.getD pos.toNat 0 : Nat) = true ∧ (opW (ws.getD pos.toNat 0 : Nat) = 35 ∨ opW (ws.getD pos.toNat 0 : Nat) = 36))) ∨ ∃ (n : Nat) (f : Nat → Bool), pos = (n : Int) ∧ n < ws.length ∧ okW (ws.getD n 0 : Nat) = true ∧ (opW (ws.getD n 0 : Nat) = 35 ∨ opW (ws.getD n 0 : Nat) = 36) ∧ WrD ws n f ∧ L = regsL f
theorem pd_same {ws : List Nat} {pos : Int} {L M : List Int} (h : PQ ws pos L) (k : DQ ws pos M) : L = M := by
  rcases h with ⟨rfl, h⟩ | ⟨n, f, rfl, h1, h2, h3, h4, rfl⟩
  · rcases k with ⟨rfl, -⟩ | ⟨n, f, rfl, h1, h2, h3, -⟩
    · rfl
    · exact absurd ⟨by omega, by omega, h2, h3⟩ h
  · rcases k with ⟨rfl, k⟩ | ⟨n', f', hn, -, -, -, k4, rfl⟩
    · exact absurd ⟨by omega, by omega, h2, h3⟩ k
    · have : n = n' := by omega
      subst this
      exact wr_same h4 k4 h3
theorem writesP_any (p : PrV) (ws : List Nat) (pos : Int) (w : World) (hw : WordsAt w p ws) (hT : Tabs w) (hBr : Bru w) (hgb : 0 < w.heap.size) (h64 : ws.length ≤ 64) : Calls Tryd.prog 18 #[p.agg, .int .i64 pos] w (BothW w (PQ ws pos)) := by
  by_cases h : pos < 0 ∨ (ws.length : Int) ≤ pos
  · exact (writes_out p ws pos w hw h).mono fun e w' h1 => ⟨[], .inl ⟨rfl, by omega⟩, none_row h1⟩
  · obtain ⟨n, rfl⟩ := Int.eq_ofNat_of_zero_le (show 0 ≤ pos by omega)
    have hn : n < ws.length := by omega
    by_cases h2 : okW (ws.getD n 0 : Nat) = true ∧ (opW (ws.getD n 0 : Nat) = 35 ∨ opW (ws.getD n 0 : Nat) = 36)
    · refine (writes_yes p ws n w hw hT hBr hgb hn h64 h2.1 h2.2).mono fun e w' h1 => ?_
      obtain ⟨f, h3, h4⟩ := wr_row h1
      exact ⟨_, .inr ⟨n, f, rfl, hn, h2.1, h2.2, h3, rfl⟩, h4⟩
    · refine (writes_no p ws n w hw hT hn (by
        by_cases h3 : okW (ws.getD n 0 : Nat) = true
        · exact .inr ⟨fun e => h2 ⟨h3, .inl e⟩, fun e => h2 ⟨h3, .inr e⟩⟩
        · exact .inl (by simpa using h3))).mono fun e w' h1 => ⟨[], .inl ⟨rfl, fun h4 => h2 ⟨by simpa using h4.2.2.1, by simpa using h4.2.2.2⟩⟩, none_row h1⟩
theorem writesD_any (p : PrV) (ws : List Nat) (pos : Int) (w : World) (hw : WordsAt w p ws) (h64 : ws.length ≤ 64) : Calls Tryd.prog 19 #[p.agg, .int .i64 pos] w (BothW w (DQ ws pos)) := by
  by_cases h : pos < 0 ∨ (ws.length : Int) ≤ pos
  · exact (refWrites_out p ws pos w hw h).mono fun e w' h1 => ⟨[], .inl ⟨rfl, by omega⟩, none_row h1⟩
  · obtain ⟨n, rfl⟩ := Int.eq_ofNat_of_zero_le (show 0 ≤ pos by omega)
    have hn : n < ws.length := by omega
    by_cases h2 : okW (ws.getD n 0 : Nat) = true ∧ (opW (ws.getD n 0 : Nat) = 35 ∨ opW (ws.getD n 0 : Nat) = 36)
    · refine (refWrites_yes p ws n w hw hn h64 h2.1 h2.2).mono fun e w' h1 => ?_
      obtain ⟨f, h3, h4⟩ := wr_row h1
      exact ⟨_, .inr ⟨n, f, rfl, hn, h2.1, h2.2, h3, rfl⟩, h4⟩
    · refine (refWrites_no p ws n w hw hn (by
        by_cases h3 : okW (ws.getD n 0 : Nat) = true
        · exact .inr ⟨fun e => h2 ⟨h3, .inl e⟩, fun e => h2 ⟨h3, .inr e⟩⟩
        · exact .inl (by simpa using h3))).mono fun e w' h1 => ⟨[], .inl ⟨rfl, fun h4 => h2 ⟨by simpa using h4.2.2.1, by simpa using h4.2.2.2⟩⟩, none_row h1⟩
end FlowDz
end Go.Proofs.YtajhkogknpmnbaaDoor
