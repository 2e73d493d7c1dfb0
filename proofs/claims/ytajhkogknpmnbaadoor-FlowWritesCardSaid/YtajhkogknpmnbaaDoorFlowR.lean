/- A function that came in: its cells, its words. -/
import Derived.Test.YtajhkogknpmnbaaDoorFlowQ
import Derived.Test.YtajhkogknpmnbaaDoorShellCells
import Derived.Test.YtajhkogknpmnbaaDoorShellFlat
namespace Go.Proofs.YtajhkogknpmnbaaDoor
open Go.RowKit ObjM Go.WideShapes Go.ChangeShapes Go.Deep
namespace FlowD

theorem proto_desc : ∃ f0 f1 f2 f3 f4 f5 : Field, Tryd.prog.underlying 28 = some (.struct #[f0, f1, f2, f3, f4, f5]) ∧ f2.offset = 2 ∧ Tryd.prog.cellsOf f2.type = 1 ∧ f2.type = 23 :=
  ⟨_, _, _, _, _, _, Tryd.underlying28, by kernel_rfl, by kernel_rfl, by kernel_rfl⟩
theorem protoCells : Tryd.prog.cellsOf 28 = 6 := by kernel_rfl
theorem u32Cells : Tryd.prog.cellsOf 37 = 1 := by kernel_rfl
theorem slice_of {P : Program} {W : World} {r : Reach} {b0 : Nat} {u e : TypeId} {x : Value} (hu : P.underlying u = some (.slice e)) (h : Cell.okWide P W r b0 u x) : ∃ a n c, x = .slice a n c ∧ (a = none ∧ n = 0 ∨ ∃ g o, a = some ⟨g, o, none⟩ ∧ g < W.heap.size) := by
  rcases Shell.ok_slice hu h with rfl | ⟨b, o, len, cap, rfl, _, _, hb⟩
  · exact ⟨_, _, _, rfl, .inl ⟨rfl, rfl⟩⟩
  · exact ⟨_, _, _, rfl, .inr ⟨b, o, rfl, hb⟩⟩
set_option maxRecDepth 100000 in
/-- What comes in as a function: its cells; its words, where they are few. -/
theorem open_proto {H : Type} {enc : TypeId × Value → H} {W : World} {r : Reach} {b0 : Nat} {v : Value} {d : DataW H} {ps : List MemPlace} {sp : Nat → Bool} (hval : Value.okWide Tryd.prog W r b0 28 v) (hd : DataW.Trod enc Tryd.prog W 0 sp true 28 v d ps) :
    ∃ p : PrV, v = p.agg ∧ (p.wn ≤ 1000000 → ∃ ws, WordsAt W p ws) := by
  obtain ⟨f0, f1, f2, f3, f4, f5, hs, ho2, hc2, ht2⟩ := proto_desc
  obtain ⟨cs, rfl, hl, hce⟩ := Shell.agg_cells hs (show Tryd.prog.cellTypes Tryd.prog.depth 28 = some [22, 3, 23, 24, 25, 26] by kernel_rfl) hval
  rw [protoCells] at hl
  obtain ⟨fuel, hf⟩ := hd
  have hf' : DataW.trod enc Tryd.prog W 0 sp true fuel 28 cs = some (d, ps) := by simpa [Value.cells] using hf
  match cs, hl, hce, hf' with
  | [x0, x1, x2, x3, x4, x5], _, hce, hf' =>
    obtain ⟨u0, e0, h0⟩ := hce 0 x0 rfl
    obtain ⟨u1, e1, h1⟩ := hce 1 x1 rfl
    obtain ⟨u2, e2, h2⟩ := hce 2 x2 rfl
    obtain ⟨u3, e3, h3⟩ := hce 3 x3 rfl
    obtain ⟨u4, e4, h4⟩ := hce 4 x4 rfl
    obtain ⟨u5, e5, h5⟩ := hce 5 x5 rfl
    cases e0
    cases e1
    cases e2
    cases e3
    cases e4
    cases e5
    obtain ⟨a0, n0, c0, rfl, -⟩ := slice_of Tryd.underlying22 h0
    obtain ⟨rg, rfl, -⟩ := Shell.ok_int Tryd.underlying3 h1
    obtain ⟨wa, wn, wc, rfl, hwa⟩ := slice_of Tryd.underlying23 h2
    obtain ⟨a3, n3, c3, rfl, -⟩ := slice_of Tryd.underlying24 h3
    obtain ⟨a4, n4, c4, rfl, -⟩ := slice_of Tryd.underlying25 h4
    obtain ⟨a5, n5, c5, rfl, -⟩ := slice_of Tryd.underlying26 h5
    refine ⟨⟨a0, n0, c0, rg, wa, wn, wc, a3, n3, c3, a4, n4, c4, a5, n5, c5⟩, rfl, fun hwn => ?_⟩
    simp only at hwn
    obtain ⟨z2, m2, ht, -⟩ := Shell.field_trod hs hf' 2 f2 rfl 2 1 ho2 hc2
    rw [ht2] at ht
    simp only [List.drop_zero, List.drop_succ_cons, List.take_succ_cons, List.take_zero] at ht
    rcases Shell.open_slice_any Tryd.underlying23 ht with h | ⟨a, len, cap, h, hlc, hcm, -, hc⟩
    · simp at h
      obtain ⟨rfl, rfl, rfl⟩ := h
      exact ⟨[], rfl, by simp, by simp, fun i x hx => by simp at hx⟩
    · simp at h
      obtain ⟨rfl, rfl, rfl⟩ := h
      rcases hwa with ⟨h9, _⟩ | ⟨g, o, hgo, hg⟩
      · cases h9
      injection hgo with hgo
      subst hgo
      have each : ∀ i, i < wn → ∃ x : Nat, W.cell? ⟨g, o + i, none⟩ = some (.int .u32 (x : Int)) ∧ x ≤ 4294967295 := by
        intro i hi
        obtain ⟨cs, y, n, hl, hat, ht, -⟩ := hc i hi
        rw [u32Cells] at hl hat
        match cs, hl, hat, ht with
        | [x], _, hat, ht =>
          obtain ⟨k, rk, -, bk⟩ := DataW.trod_int Tryd.underlying37 ht
          have bk := bounds_u32 bk
          simp at rk
          subst rk
          obtain ⟨q, rfl⟩ := Int.eq_ofNat_of_zero_le bk.1
          have h9 := hat 0 _ rfl
          refine ⟨q, ?_, by omega⟩
          have e : (⟨g, o, none⟩ : Addr).add (i * 1 + 0) = ⟨g, o + i, none⟩ := by
            simp [Addr.add]
            try (intro h; simp [h])
          rw [e] at h9
          exact h9
      have hch : ∀ i, ∃ x : Nat, i < wn → W.cell? ⟨g, o + i, none⟩ = some (.int .u32 (x : Int)) ∧ x ≤ 4294967295 := by
        intro i
        by_cases hi : i < wn
        · obtain ⟨x, hx⟩ := each i hi
          exact ⟨x, fun _ => hx⟩
        · exact ⟨0, fun h => absurd h hi⟩
      refine ⟨(List.range wn).map fun i => Classical.choose (hch i), by simp, by simpa using hwn, ?_, ?_⟩
      · intro x hx
        obtain ⟨i, hi, rfl⟩ := List.mem_map.1 hx
        exact (Classical.choose_spec (hch i) (List.mem_range.1 hi)).2
      · intro i x hx
        have hi : i < wn := by
          have := (List.getElem?_eq_some_iff.1 hx).1
          simpa using this
        rw [List.getElem?_map, List.getElem?_range hi] at hx
        have hx := Option.some.inj hx
        subst hx
        exact ⟨g, o, rfl, hg, (Classical.choose_spec (hch i) hi).1⟩
end FlowD
end Go.Proofs.YtajhkogknpmnbaaDoor
namespace Go.Proofs.YtajhkogknpmnbaaDoor
open Go.RowKit ObjM
namespace FlowD
open FlowM InstrM InstrD LabelD

def exW : List Nat := [262179, 37, 1, 262178, 42]
theorem ex_next : nextW exW 0 = [2, 4] ∧ nextW exW 2 = [3] ∧ nextW exW 3 = [4] ∧ nextW exW 4 = [-1] := by decide +kernel
theorem ex_nx : nxO (nextW exW) 0 = [some 2, some 4] ∧ nxO (nextW exW) 2 = [some 3] ∧ nxO (nextW exW) 3 = [some 4] ∧ nxO (nextW exW) 4 = [none] := by
  obtain ⟨h0, h2, h3, h4⟩ := ex_next
  unfold nxO
  rw [h0, h2, h3, h4]
  exact ⟨rfl, rfl, rfl, rfl⟩
theorem ex_post0 : PostSpec (nextW exW) 5 0 4 := by
  obtain ⟨h0, h2, h3, h4⟩ := ex_nx
  have hl4 : FlowM.Way (nxO (nextW exW)) 4 [4] := .stop (by rw [h4]; simp)
  have hl0 : Live (nxO (nextW exW)) 0 := ⟨_, .step (m := 4) (by rw [h0]; simp) hl4⟩
  have c3 : Cut (nxO (nextW exW)) 3 4 := cut_step.2 (.inr ⟨by rw [h3]; simp, fun m hm => by rw [h3] at hm; simp at hm; subst hm; exact cut_self _⟩)
  have c2 : Cut (nxO (nextW exW)) 2 4 := cut_step.2 (.inr ⟨by rw [h2]; simp, fun m hm => by rw [h2] at hm; simp at hm; subst hm; exact c3⟩)
  have c0 : Cut (nxO (nextW exW)) 0 4 := cut_step.2 (.inr ⟨by rw [h0]; simp, fun m hm => by
    rw [h0] at hm
    simp at hm
    rcases hm with rfl | rfl
    · exact c2
    · exact cut_self _⟩)
  refine .inr ⟨4, rfl, by omega, hl0, by omega, c0, fun q hq hc => ?_⟩
  rcases cut_step.1 hc with h | ⟨_, h⟩
  · exact absurd h hq
  · exact h 4 (by rw [h0]; simp)
theorem ex_post4 : PostSpec (nextW exW) 5 4 (-1) := by
  obtain ⟨h0, h2, h3, h4⟩ := ex_nx
  refine .inl ⟨rfl, fun _ p _ hpn hc _ => ?_⟩
  rcases cut_step.1 hc with h | ⟨h, _⟩
  · exact hpn h
  · exact h (by rw [h4]; simp)
def exP (g : Nat) : PrV := ⟨none, 0, 0, 0, some ⟨g, 0, none⟩, 5, 5, none, 0, 0, none, 0, 0, none, 0, 0⟩
theorem ex_words {w W : World} {g : Nat} (h : Has w g 37 [.int .u32 262179, .int .u32 37, .int .u32 1, .int .u32 262178, .int .u32 42]) (hb : Below (g + 1) w W) : WordsAt W (exP g) exW := by
  have h2 := h.below hb (Nat.lt_succ_self g)
  refine ⟨rfl, by decide, by decide, fun i x hx => ⟨g, 0, rfl, h2.lt, ?_⟩⟩
  have hi := (List.getElem?_eq_some_iff.1 hx).1
  rw [Nat.zero_add, h2.cell]
  match i, hi with
  | 0, _ => injection hx with hx; subst hx; rfl
  | 1, _ => injection hx with hx; subst hx; rfl
  | 2, _ => injection hx with hx; subst hx; rfl
  | 3, _ => injection hx with hx; subst hx; rfl
  | 4, _ => injection hx with hx; subst hx; rfl
set_option maxRecDepth 100000 in
set_option maxHeartbeats 8000000 in
theorem awake_any (w : World) (hT : Tabs w) (hBr : Bru w) (hgb : 0 < w.heap.size) : Calls Tryd.prog 9 #[] w fun e w' => e = .returned (.bool true) ∧ Below w.heap.size w w' := by
  obtain ⟨w2, hw2⟩ : ∃ w2, (w.alloc (.cells #[.int .u32 262179, .int .u32 37, .int .u32 1, .int .u32 262178, .int .u32 42] 37)).alloc (.cells #[.slice none 0 0, .int .i64 0, .slice (some ⟨w.heap.size, 0, none⟩) 5 5, .slice none 0 0, .slice none 0 0, .slice none 0 0] 28) = w2 := ⟨_, rfl⟩
  have hb2 : Below w.heap.size w w2 := by rw [← hw2]; exact ((Below.refl _ w).alloc (Nat.le_refl _) _).alloc (by simp) _
  have hWd : Has w2 w.heap.size 37 [.int .u32 262179, .int .u32 37, .int .u32 1, .int .u32 262178, .int .u32 42] := by
    rw [← hw2]
    exact (Has.new w 37 _).keeps (Keeps.alloc [] _ _) (by simp)
  have hPr : Has w2 (w.heap.size + 1) 28 [.slice none 0 0, .int .i64 0, .slice (some ⟨w.heap.size, 0, none⟩) 5 5, .slice none 0 0, .slice none 0 0, .slice none 0 0] := by
    have h := Has.new (w.alloc (.cells #[.int .u32 262179, .int .u32 37, .int .u32 1, .int .u32 262178, .int .u32 42] 37)) 28 [.slice none 0 0, .int .i64 0, .slice (some ⟨w.heap.size, 0, none⟩) 5 5, .slice none 0 0, .slice none 0 0, .slice none 0 0]
    rw [World.size_alloc] at h
    rw [← hw2]
    exact h
  have HX : Hid (∀ W, Below w2.heap.size w2 W → (W.cell? ⟨w.heap.size + 1, 0, none⟩ = some (.slice none 0 0) ∧ W.cell? ⟨w.heap.size + 1, 1, none⟩ = some (.int .i64 0) ∧ W.cell? ⟨w.heap.size + 1, 2, none⟩ = some (.slice (some ⟨w.heap.size, 0, none⟩) 5 5) ∧ W.cell? ⟨w.heap.size + 1, 3, none⟩ = some (.slice none 0 0) ∧ W.cell? ⟨w.heap.size + 1, 4, none⟩ = some (.slice none 0 0) ∧ W.cell? ⟨w.heap.size + 1, 5, none⟩ = some (.slice none 0 0)) ∧ w.heap.size + 1 < W.heap.size) := Lib.hid (fun W hW => by
    have g := hPr.below hW hPr.lt
    exact ⟨⟨g.cell 0, g.cell 1, g.cell 2, g.cell 3, g.cell 4, g.cell 5⟩, g.lt⟩)
  have hsz2 : w.heap.size + 1 < w2.heap.size := hPr.lt
  have HPo := Lib.hid (posts_any (exP w.heap.size) exW w2 (ex_words hWd (Below.refl _ _)) (hT.below hb2) (fun j hj => (hb2.cell (p := ⟨_, j, none⟩) hgb).trans (hBr j hj)) (Nat.lt_of_lt_of_le hgb hb2.size) (by decide))
  have HNe := Lib.hid (fun (W : World) (hW : Below w2.heap.size w2 W) => next_any (exP w.heap.size) exW 0 W (ex_words hWd (hW.mono (by omega))) (by omega) (hT.below (hb2.trans (hW.mono hb2.size))))
  have HB2 := Lib.hid hb2
  have HW2 := Lib.hid hw2
  obtain ⟨⟨x0, x1, x2, x3, x4, x5⟩, lx⟩ := HX.out _ (Below.refl _ w2)
  simp only [PrV.agg, exP] at HPo HNe
  rw [← hw2] at x0 x1 x2 x3 x4 x5 lx HPo
  clear hb2 hWd hPr hsz2 hT hBr hgb hw2
  go_enter Tryd.func9, Tryd.ntmps9
  go_wp2_with fail
  refine HPo.out.mono ?_
  rintro e w3 ⟨Q, R, rfl, hQ, hrow, hlen, hsp, hb3⟩
  rw [HW2.out] at hQ hb3
  have hl5 : R.length = 5 := hlen
  have e0 : R[0]'(by omega) = 4 := post_unique (hsp 0 (by omega)) ex_post0
  have e4 : R[4]'(by omega) = -1 := post_unique (hsp 4 (by omega)) ex_post4
  have hRow : Hid (∀ W, Below w3.heap.size w3 W → W.cell? ⟨Q, 0, none⟩ = some (.int .i64 4) ∧ W.cell? ⟨Q, 4, none⟩ = some (.int .i64 (-1)) ∧ Q < W.heap.size) := Lib.hid fun W hW => by
    have h := hrow.below hW hrow.lt
    have h0 := h.cell (i := 0) (by omega)
    have h4 := h.cell (i := 4) (by omega)
    rw [e0] at h0
    rw [e4] at h4
    exact ⟨h0, h4, h.lt⟩
  obtain ⟨⟨y0, y1, y2, y3, y4, y5⟩, ly⟩ := HX.out _ hb3
  have HC := Lib.hid (HNe.out w3 hb3)
  have HB3 := Lib.hid (HB2.out.trans (hb3.mono HB2.out.size))
  have he : exW.length = 5 := rfl
  rw [he]
  clear HPo HNe HX HB2 HW2 hQ hb3 hrow hlen hsp hl5 e0 e4 x0 x1 x2 x3 x4 x5 lx he
  go_wp2_with fail
  refine HC.out.mono ?_
  rintro e w4 ⟨v, rfl, ho, hb4⟩
  have hn : nextV exW 0 = [2, 4] := ex_next.1
  rw [hn] at ho
  rcases row_of_own ho with ⟨h9, _⟩ | ⟨g, cap, rfl, _, hg⟩
  · cases h9
  have z0 := hg.cell (i := 0) (by simp)
  have z1 := hg.cell (i := 1) (by simp)
  have lg := hg.lt
  simp only [List.getElem_cons_zero, List.getElem_cons_succ] at z0 z1
  obtain ⟨q0, q4, lq⟩ := hRow.out w4 hb4
  have HB4 := Lib.hid (HB3.out.trans (hb4.mono HB3.out.size))
  clear HC HB3 hRow ho hb4 hn hg y0 y1 y2 y3 y4 y5 ly
  go_wp2
  go_ret
  exact ⟨rfl, HB4.out⟩
end FlowD
end Go.Proofs.YtajhkogknpmnbaaDoor
