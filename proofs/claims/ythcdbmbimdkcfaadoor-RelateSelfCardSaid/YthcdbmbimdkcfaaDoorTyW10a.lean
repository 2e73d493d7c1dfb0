/- What the rows' lists give; the laws of layer 10 over types that came in. -/
import Derived.Test.YthcdbmbimdkcfaaDoorTyL10a
import Derived.Test.YthcdbmbimdkcfaaDoorTables
import Derived.Test.YthcdbmbimdkcfaaDoorRows
namespace Go.Proofs.YthcdbmbimdkcfaaDoor
open Go.RowKit ObjM Go.ChangeShapes
namespace TyD
open LexD (nameB WTab WL)

theorem gWords : Tryd.prog.globalNamed "ravelin/lex.words" = some 1 := by kernel_rfl
theorem gWordsType : (Tryd.prog.globals[1]?).map (·.type) = some 88 := by kernel_rfl
theorem gKinds : Tryd.prog.globalNamed "ravelin/types.kinds" = some 0 := by kernel_rfl
theorem gKindsType : (Tryd.prog.globals[0]?).map (·.type) = some 48 := by kernel_rfl
theorem words_of {l : List (String × DataW Unit)} {W : World} (h : laidMet Tryd.prog (("ravelin/lex.words", Rows.laid_ravelin_lex_words) :: l) W) : WTab W := by
  have hc := Tables.cells_of_head 4 (vs := WL.map Value.string) gWords gWordsType h (by kernel_rfl)
  have h2 : ∀ (i : Nat) (s : ByteArray), WL[i]? = some s → W.cell? ⟨1, i, none⟩ = some (.string s) := fun i s hs => hc i _ (by rw [List.getElem?_map, hs]; rfl)
  exact ⟨World.block_lt_of_cell? W ⟨1, 0, none⟩ (h2 0 _ rfl), h2⟩
theorem kinds_of {l : List (String × DataW Unit)} {W : World} (h : laidMet Tryd.prog (("ravelin/types.kinds", Rows.laid_ravelin_types_kinds) :: l) W) : KTab W := by
  have hc := Tables.cells_of_head 4 (vs := [.int .i64 127, .int .i64 1, .int .i64 2, .int .i64 4, .int .i64 8, .int .i64 16, .int .i64 64]) gKinds gKindsType h (by kernel_rfl)
  refine ⟨World.block_lt_of_cell? W ⟨0, 0, none⟩ (hc 0 _ rfl), fun q hq => ?_⟩
  have : q = 0 ∨ q = 1 ∨ q = 2 ∨ q = 3 ∨ q = 4 ∨ q = 5 ∨ q = 6 := by omega
  rcases this with rfl | rfl | rfl | rfl | rfl | rfl | rfl
  · exact hc 0 _ rfl
  · exact hc 1 _ rfl
  · exact hc 2 _ rfl
  · exact hc 3 _ rfl
  · exact hc 4 _ rfl
  · exact hc 5 _ rfl
  · exact hc 6 _ rfl
theorem tabs10 {W : World} (h : laidMet Tryd.prog [("ravelin/lex.words", Rows.laid_ravelin_lex_words), ("ravelin/types.kinds", Rows.laid_ravelin_types_kinds)] W) : WTab W ∧ KTab W := ⟨words_of h, kinds_of h.tail⟩
section
variable {H : Type} {enc : TypeId × Value → H}
set_option maxRecDepth 100000 in
theorem sides_w {r : Reach} {b0 b1 : Nat} {d0 d1 : DataW H} {p0 p1 : List MemPlace} {s0 s1 : Nat → Bool} (v0 v1 : Value) (W : World) (g0 : Value.okWide Tryd.prog W r b0 25 v0) (h0 : DataW.Trod enc Tryd.prog W 0 s0 true 25 v0 d0 p0) (hw0 : ∀ n ∈ d0.weights Tryd.prog 25, n ≤ reachBytes) (g1 : Value.okWide Tryd.prog W r b1 25 v1) (h1 : DataW.Trod enc Tryd.prog W 0 s1 true 25 v1 d1 p1) (hw1 : ∀ n ∈ d1.weights Tryd.prog 25, n ≤ reachBytes) (hT : WTab W ∧ KTab W) :
    Calls Tryd.prog 7 #[v0, v1] W fun e w' => e = .returned (.bool true) ∧ Below W.heap.size W w' := by
  obtain ⟨t0, n0, a0, rfl, at0, ok0⟩ := open_type g0 h0 hw0
  obtain ⟨t1, n1, a1, rfl, at1, ok1⟩ := open_type g1 h1 hw1
  exact sides_u t0 _ _ t1 _ _ W ok0 at0 ok1 at1  hT.1 hT.2
set_option maxRecDepth 100000 in
theorem chains_w {r : Reach} {b0 b1 b2 : Nat} {d0 d1 d2 : DataW H} {p0 p1 p2 : List MemPlace} {s0 s1 s2 : Nat → Bool} (v0 v1 v2 : Value) (W : World) (g0 : Value.okWide Tryd.prog W r b0 25 v0) (h0 : DataW.Trod enc Tryd.prog W 0 s0 true 25 v0 d0 p0) (hw0 : ∀ n ∈ d0.weights Tryd.prog 25, n ≤ reachBytes) (g1 : Value.okWide Tryd.prog W r b1 25 v1) (h1 : DataW.Trod enc Tryd.prog W 0 s1 true 25 v1 d1 p1) (hw1 : ∀ n ∈ d1.weights Tryd.prog 25, n ≤ reachBytes) (g2 : Value.okWide Tryd.prog W r b2 25 v2) (h2 : DataW.Trod enc Tryd.prog W 0 s2 true 25 v2 d2 p2) (hw2 : ∀ n ∈ d2.weights Tryd.prog 25, n ≤ reachBytes) (hT : WTab W ∧ KTab W) :
    Calls Tryd.prog 8 #[v0, v1, v2] W fun e w' => e = .returned (.bool true) ∧ Below W.heap.size W w' := by
  obtain ⟨t0, n0, a0, rfl, at0, ok0⟩ := open_type g0 h0 hw0
  obtain ⟨t1, n1, a1, rfl, at1, ok1⟩ := open_type g1 h1 hw1
  obtain ⟨t2, n2, a2, rfl, at2, ok2⟩ := open_type g2 h2 hw2
  exact chains_u t0 _ _ t1 _ _ t2 _ _ W ok0 at0 ok1 at1 ok2 at2  hT.1 hT.2
set_option maxRecDepth 100000 in
theorem vague_w {r : Reach} {b0 b1 : Nat} {d0 d1 : DataW H} {p0 p1 : List MemPlace} {s0 s1 : Nat → Bool} (v0 v1 : Value) (W : World) (g0 : Value.okWide Tryd.prog W r b0 25 v0) (h0 : DataW.Trod enc Tryd.prog W 0 s0 true 25 v0 d0 p0) (hw0 : ∀ n ∈ d0.weights Tryd.prog 25, n ≤ reachBytes) (g1 : Value.okWide Tryd.prog W r b1 25 v1) (h1 : DataW.Trod enc Tryd.prog W 0 s1 true 25 v1 d1 p1) (hw1 : ∀ n ∈ d1.weights Tryd.prog 25, n ≤ reachBytes) (hT : WTab W ∧ KTab W) :
    Calls Tryd.prog 12 #[v0, v1] W fun e w' => e = .returned (.bool true) ∧ Below W.heap.size W w' := by
  obtain ⟨t0, n0, a0, rfl, at0, ok0⟩ := open_type g0 h0 hw0
  obtain ⟨t1, n1, a1, rfl, at1, ok1⟩ := open_type g1 h1 hw1
  exact vague_u t0 _ _ t1 _ _ W ok0 at0 ok1 at1  hT.1 hT.2
end
end TyD
end Go.Proofs.YthcdbmbimdkcfaaDoor
