/- HeapNone, of whatever came in. -/
import Derived.Test.YtbkfmoplgcnejaaDoorHeapNoL
import Derived.Test.YtbkfmoplgcnejaaDoorShellCells
namespace Go.Proofs.YtbkfmoplgcnejaaDoor
open Go.RowKit Go.WideShapes Go.ChangeShapes Go.Deep ObjM Shell
namespace HeapD
open LabelM LabelD ValD TyD

theorem tabs21 {α : Prop} (_ : α) : True := trivial
theorem actCellsOf : Tryd.prog.cellsOf 32 = 19 := by kernel_rfl
section
variable {H : Type} {enc : TypeId × Value → H}
set_option maxRecDepth 100000 in
theorem heapNone_w {r : Reach} {b0 : Nat} {d0 : DataW H} {p0 : List MemPlace} {s0 : Nat → Bool} (v0 : Value) (W : World) (g0 : Value.okWide Tryd.prog W r b0 32 v0) (h0 : DataW.Trod enc Tryd.prog W 0 s0 true 32 v0 d0 p0) (hw0 : ∀ n ∈ d0.weights Tryd.prog 32, n ≤ reachBytes) (_ : True) :
    Calls Tryd.prog 3 #[v0] W fun e w' => e = .returned (.bool true) ∧ Below W.heap.size W w' := by
  obtain ⟨f0, f1, f2, f3, f4, f5, f6, f7, hs, -⟩ := act_desc
  obtain ⟨cts, hct⟩ : ∃ cts, Tryd.prog.cellTypes Tryd.prog.depth 32 = some cts := ⟨_, show _ = some [3, 23, 3, 2, 9, 23, 3, 2, 9, 23, 3, 2, 9, 23, 3, 26, 3, 27, 28] by kernel_rfl⟩
  obtain ⟨cs, rfl, hl, -⟩ := Shell.agg_cells hs hct g0
  obtain ⟨fuel, hf⟩ := h0
  rw [actCellsOf] at hl
  have hf' : DataW.trod enc Tryd.prog W 0 s0 true fuel 32 cs = some (d0, p0) := by simpa [Value.cells] using hf
  obtain ⟨d, c, a, b, v, n, ca, cl, cc, t, tv, ta, rfl, -, ha, hb, -, -, hcl, ht, hok⟩ := open_act19 hl hf' hw0
  obtain ⟨x1, y1, x2, y2, rfl, rfl⟩ := ht.shape
  exact heapNone_any d a.k a.n b.k b.n v.k v.n n t.kind c a.l b.l v.l a.s b.s v.s ca x1 x2 cl cc _ y1 _ y2 t hcl ha.2.2.1 hb.2.2.1 W hok rfl ht
end
end HeapD
end Go.Proofs.YtbkfmoplgcnejaaDoor
