/- Inputs among a law's arguments. -/
import Derived.Test.YticgpfigjkgfaaaDoorTraceAl2
import Derived.OpenShut
namespace Go.Proofs.YticgpfigjkgfaaaDoor
open Go.RowKit Go.WideShapes Go.ChangeShapes ObjM Shell
namespace TraceD
open LabelM LabelD

theorem inputs_desc : Tryd.prog.cellTypes Tryd.prog.depth 34 = some (List.replicate 8 32) := by kernel_rfl
section
variable {H : Type} {enc : TypeId × Value → H}
theorem open_inputs {W : World} {b0 : Nat} {v : Value} {d : DataW H} {ps : List MemPlace} {sp : Nat → Bool} (h : Value.okWide Tryd.prog W .any b0 34 v) (hd : DataW.Trod enc Tryd.prog W 0 sp true 34 v d ps) :
    ∃ (a : Nat → Option Addr) (z : Nat → List Int) (q : Nat → Nat), v = .agg (inV a z q).toArray ∧ ∀ j, j < 8 → IntsAt W .i64 (.slice (a j) (z j).length (q j)) (z j) := by
  obtain ⟨cs, rfl, hl, hc⟩ := Shell.arr_cells Tryd.underlying34 inputs_desc h
  rw [show Tryd.prog.cellsOf 34 = 8 by kernel_rfl] at hl
  obtain ⟨fuel, hf⟩ := hd
  obtain ⟨xs, m, -, -, -, hxl, hx⟩ := DataW.trod_array Tryd.underlying34 hf
  rw [show Tryd.prog.cellsOf 32 = 1 by kernel_rfl] at hx
  have hcl : (Value.agg cs.toArray).cells.toList = cs := by simp [Value.cells]
  rw [hcl] at hx
  have each : ∀ i, i < 8 → ∃ t : Option Addr × List Int × Nat, cs[i]? = some (.slice t.1 t.2.1.length t.2.2) ∧ IntsAt W .i64 (.slice t.1 t.2.1.length t.2.2) t.2.1 := by
    intro i hi
    have hci : cs[i]? = some (cs[i]'(by omega)) := List.getElem?_eq_getElem (by omega)
    obtain ⟨u, hu, hok⟩ := hc i _ hci
    have hue : u = 32 := List.eq_of_mem_replicate (List.mem_of_getElem? hu)
    subst hue
    have h1 := hx i hi
    rw [Nat.mul_one] at h1
    have hone : (cs.drop i).take 1 = [cs[i]'(by omega)] := by
      rw [List.drop_eq_getElem_cons (by omega)]
      rfl
    rw [hone, List.getElem?_eq_getElem (by omega)] at h1
    have hval : Value.okWide Tryd.prog W .any b0 32 (cs[i]'(by omega)) := by
      unfold Value.okWide
      rw [Tryd.underlying32]
      exact hok
    have hcc : (cs[i]'(by omega)).cells.toList = [cs[i]'(by omega)] := by
      rcases Shell.ok_slice Tryd.underlying32 hok with e | ⟨b, o, len, cap, e, -, -, -⟩ <;> rw [e] <;> rfl
    obtain ⟨zs, hz, -⟩ := open_slice_ints Tryd.underlying32 Tryd.underlying2 (show Tryd.prog.cellsOf 2 = 1 by kernel_rfl) hval (d := (xs[i]'(by omega)).1) (ps := (xs[i]'(by omega)).2) (sp := sp) ⟨m, by rw [hcc]; exact h1⟩
    obtain ⟨av, cw, e⟩ := ints_shape hz
    refine ⟨(av, zs, cw), ?_, ?_⟩
    · rw [hci, e]
    · rw [← e]
      exact hz
  obtain ⟨L, hL, hR⟩ := list_of 8 each
  have hR' : ∀ i, i < 8 → cs[i]? = some (.slice (L.getD i (none, [], 0)).1 (L.getD i (none, [], 0)).2.1.length (L.getD i (none, [], 0)).2.2) ∧ IntsAt W .i64 (.slice (L.getD i (none, [], 0)).1 (L.getD i (none, [], 0)).2.1.length (L.getD i (none, [], 0)).2.2) (L.getD i (none, [], 0)).2.1 := by
    intro i hi
    have e : L[i]? = some (L.getD i (none, [], 0)) := by rw [List.getD_eq_getElem?_getD, List.getElem?_eq_getElem (by omega)]; rfl
    exact hR i _ e
  refine ⟨fun i => (L.getD i (none, [], 0)).1, fun i => (L.getD i (none, [], 0)).2.1, fun i => (L.getD i (none, [], 0)).2.2, ?_, fun j hj => (hR' j hj).2⟩
  have e : cs = inV (fun i => (L.getD i (none, [], 0)).1) (fun i => (L.getD i (none, [], 0)).2.1) (fun i => (L.getD i (none, [], 0)).2.2) := by
    apply List.ext_getElem?
    intro i
    by_cases hi : i < 8
    · rw [(hR' i hi).1, inV_at _ _ _ hi]
    · rw [List.getElem?_eq_none (by omega), List.getElem?_eq_none (by simp [inV]; omega)]
  rw [← e]
end
end TraceD
end Go.Proofs.YticgpfigjkgfaaaDoor
