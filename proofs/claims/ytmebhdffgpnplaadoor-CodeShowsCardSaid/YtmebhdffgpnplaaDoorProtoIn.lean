/- A function among a law's arguments (out of XFlowR). -/
import Derived.Test.YtmebhdffgpnplaaDoorFlow1
import Derived.Test.YtmebhdffgpnplaaDoorShellFlat
import Derived.Test.YtmebhdffgpnplaaDoorShellSized
import Derived.Test.YtmebhdffgpnplaaDoorShellCells
namespace Go.Proofs.YtmebhdffgpnplaaDoor
open Go.RowKit Go.WideShapes Go.ChangeShapes Go.Deep ObjM Shell
namespace FlowD
open InstrM InstrD

theorem proto_desc : ∃ f0 f1 f2 f3 f4 f5 : Field, Tryd.prog.underlying 38 = some (.struct #[f0, f1, f2, f3, f4, f5]) ∧ f2.offset = 2 ∧ Tryd.prog.cellsOf f2.type = 1 ∧ f2.type = 33 :=
  ⟨_, _, _, _, _, _, Tryd.underlying38, by kernel_rfl, by kernel_rfl, by kernel_rfl⟩
theorem protoCells : Tryd.prog.cellsOf 38 = 6 := by kernel_rfl
theorem u32Cells : Tryd.prog.cellsOf 44 = 1 := by kernel_rfl
theorem slice_of {P : Program} {W : World} {r : Reach} {b0 : Nat} {u e : TypeId} {x : Value} (hu : P.underlying u = some (.slice e)) (h : Cell.okWide P W r b0 u x) : ∃ a n c, x = .slice a n c ∧ (a = none ∧ n = 0 ∨ ∃ g o, a = some ⟨g, o, none⟩ ∧ g < W.heap.size) := by
  rcases Shell.ok_slice hu h with rfl | ⟨b, o, len, cap, rfl, _, _, hb⟩
  · exact ⟨_, _, _, rfl, .inl ⟨rfl, rfl⟩⟩
  · exact ⟨_, _, _, rfl, .inr ⟨b, o, rfl, hb⟩⟩
set_option maxRecDepth 100000 in
/-- What comes in as a function: its cells; its words, where they are few. -/
theorem open_proto {H : Type} {enc : TypeId × Value → H} {W : World} {r : Reach} {b0 : Nat} {v : Value} {d : DataW H} {ps : List MemPlace} {sp : Nat → Bool} (hval : Value.okWide Tryd.prog W r b0 38 v) (hd : DataW.Trod enc Tryd.prog W 0 sp true 38 v d ps) :
    ∃ p : PrV, v = p.agg ∧ (p.wn ≤ 1000000 → ∃ ws, WordsAt W p ws) := by
  obtain ⟨f0, f1, f2, f3, f4, f5, hs, ho2, hc2, ht2⟩ := proto_desc
  obtain ⟨cs, rfl, hl, hce⟩ := Shell.agg_cells hs (show Tryd.prog.cellTypes Tryd.prog.depth 38 = some [24, 3, 33, 34, 35, 36] by kernel_rfl) hval
  rw [protoCells] at hl
  obtain ⟨fuel, hf⟩ := hd
  have hf' : DataW.trod enc Tryd.prog W 0 sp true fuel 38 cs = some (d, ps) := by simpa [Value.cells] using hf
  match cs, hl, hce, hf' with
  | [x0, x1, x2, x3, x4, x5], _, hce, hf' =>
    obtain ⟨u0, e0, h0⟩ := hce 0 x0 rfl
    obtain ⟨u1, e1, h1⟩ := hce 1 x1 rfl
    obtain ⟨u2, e2, h2⟩ := hce 2 x2 rfl
    obtain ⟨u3, e3, h3⟩ := hce 3 x3 rfl
    obtain ⟨u4, e4, h4⟩ := hce 4 x4 rfl
    obtain ⟨u5, e5, h5⟩ := hce 5 x5 rfl
    cases e0
    cases e1
    cases e2
    cases e3
    cases e4
    cases e5
    obtain ⟨a0, n0, c0, rfl, -⟩ := slice_of Tryd.underlying24 h0
    obtain ⟨rg, rfl, -⟩ := Shell.ok_int Tryd.underlying3 h1
    obtain ⟨wa, wn, wc, rfl, hwa⟩ := slice_of Tryd.underlying33 h2
    obtain ⟨a3, n3, c3, rfl, -⟩ := slice_of Tryd.underlying34 h3
    obtain ⟨a4, n4, c4, rfl, -⟩ := slice_of Tryd.underlying35 h4
    obtain ⟨a5, n5, c5, rfl, -⟩ := slice_of Tryd.underlying36 h5
    refine ⟨⟨a0, n0, c0, rg, wa, wn, wc, a3, n3, c3, a4, n4, c4, a5, n5, c5⟩, rfl, fun hwn => ?_⟩
    simp only at hwn
    obtain ⟨z2, m2, ht, -⟩ := Shell.field_trod hs hf' 2 f2 rfl 2 1 ho2 hc2
    rw [ht2] at ht
    simp only [List.drop_zero, List.drop_succ_cons, List.take_succ_cons, List.take_zero] at ht
    rcases Shell.open_slice_any Tryd.underlying33 ht with h | ⟨a, len, cap, h, hlc, hcm, -, hc⟩
    · simp at h
      obtain ⟨rfl, rfl, rfl⟩ := h
      exact ⟨[], rfl, by simp, by simp, fun i x hx => by simp at hx⟩
    · simp at h
      obtain ⟨rfl, rfl, rfl⟩ := h
      rcases hwa with ⟨h9, _⟩ | ⟨g, o, hgo, hg⟩
      · cases h9
      injection hgo with hgo
      subst hgo
      have each : ∀ i, i < wn → ∃ x : Nat, W.cell? ⟨g, o + i, none⟩ = some (.int .u32 (x : Int)) ∧ x ≤ 4294967295 := by
        intro i hi
        obtain ⟨cs, y, n, hl, hat, ht, -⟩ := hc i hi
        rw [u32Cells] at hl hat
        match cs, hl, hat, ht with
        | [x], _, hat, ht =>
          obtain ⟨k, rk, -, bk⟩ := DataW.trod_int Tryd.underlying44 ht
          have bk := bounds_u32 bk
          simp at rk
          subst rk
          obtain ⟨q, rfl⟩ := Int.eq_ofNat_of_zero_le bk.1
          have h9 := hat 0 _ rfl
          refine ⟨q, ?_, by omega⟩
          have e : (⟨g, o, none⟩ : Addr).add (i * 1 + 0) = ⟨g, o + i, none⟩ := by
            simp [Addr.add]
            try (intro h; simp [h])
          rw [e] at h9
          exact h9
      have hch : ∀ i, ∃ x : Nat, i < wn → W.cell? ⟨g, o + i, none⟩ = some (.int .u32 (x : Int)) ∧ x ≤ 4294967295 := by
        intro i
        by_cases hi : i < wn
        · obtain ⟨x, hx⟩ := each i hi
          exact ⟨x, fun _ => hx⟩
        · exact ⟨0, fun h => absurd h hi⟩
      refine ⟨(List.range wn).map fun i => Classical.choose (hch i), by simp, by simpa using hwn, ?_, ?_⟩
      · intro x hx
        obtain ⟨i, hi, rfl⟩ := List.mem_map.1 hx
        exact (Classical.choose_spec (hch i) (List.mem_range.1 hi)).2
      · intro i x hx
        have hi : i < wn := by
          have := (List.getElem?_eq_some_iff.1 hx).1
          simpa using this
        rw [List.getElem?_map, List.getElem?_range hi] at hx
        have hx := Option.some.inj hx
        subst hx
        exact ⟨g, o, rfl, hg, (Classical.choose_spec (hch i) hi).1⟩
end FlowD
end Go.Proofs.YtmebhdffgpnplaaDoor
