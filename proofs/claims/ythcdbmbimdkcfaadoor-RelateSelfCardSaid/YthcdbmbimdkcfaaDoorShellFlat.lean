/- A slice of whatever elements: each element's cells, and what it weighs. Nothing of the program is named. -/
import Derived.Test.YthcdbmbimdkcfaaDoorShellSized
import Derived.OpenShut
namespace Go.Proofs.YthcdbmbimdkcfaaDoor
open Go.RowKit Go.WideShapes Go.ChangeShapes Go.Deep
namespace Shell
section
variable {H : Type} {enc : TypeId × Value → H} {P : Program} {w : World} {base : Nat} {spare : Nat → Bool} {held : Bool}
theorem open_slice_any {t e : TypeId} {fuel : Nat} {cs : List Value} {x : DataW H × List MemPlace} (ht : P.underlying t = some (.slice e)) (h : DataW.trod enc P w base spare held fuel t cs = some x) :
    cs = [.slice none 0 0] ∨
    ∃ (a : Addr) (len cap : Nat), cs = [.slice (some a) len cap] ∧ len ≤ cap ∧ cap ≤ maxLen ∧ (∃ k, len ≤ k ∧ k * P.bytesOf e ∈ x.1.weights P t) ∧
      ∀ i, i < len → ∃ (cs' : List Value) (y : DataW H × List MemPlace) (n : Nat), cs'.length = P.cellsOf e ∧ (∀ (j : Nat) v, cs'[j]? = some v → w.cell? (a.add (i * P.cellsOf e + j)) = some v) ∧ DataW.trod enc P w base spare held n e cs' = some y ∧
        ∀ n ∈ y.1.weights P e, n ∈ x.1.weights P t := by
  rcases open_slice ht h with h0 | ⟨a, len, cap, m, n, D, Pl, hcs, hb, hl, hm, hmm, hx, hi⟩
  · exact .inl h0.1
  · have hlm : len ≤ m := by rw [hmm]; split <;> omega
    refine .inr ⟨a, len, cap, hcs, hl, hm, ⟨len + (m - len), by omega, ?_⟩, fun i hil => ?_⟩
    · rw [hx]
      simp [DataW.weights, ht]
    have him : i < m := by omega
    obtain ⟨cs', hc, ht'⟩ := hi i him
    obtain ⟨_, hcl, hat⟩ := World.cells?_some hc
    refine ⟨cs', _, _, hcl, fun j v hv => ?_, ht', fun q hq => ?_⟩
    · have hjl := (List.getElem?_eq_some_iff.1 hv).1
      rw [← Go.Deep.add_add, hat j (by omega), hv]
    · rw [hx]
      simp only [DataW.weights, ht]
      refine List.mem_cons_of_mem _ (List.mem_append_left _ (weightsAll_mem (d := D i) (List.mem_map.2 ⟨i, by simpa using hil, rfl⟩) q hq))
/-- One field of a struct that was read. -/
theorem field_trod {e : TypeId} {fs : Array Field} {n : Nat} {cs : List Value} {y : DataW H × List MemPlace} (he : P.underlying e = some (.struct fs)) (h : DataW.trod enc P w base spare held n e cs = some y) (j : Nat) (f : Field) (hj : fs[j]? = some f) (o s : Nat) (ho : f.offset = o) (hs : P.cellsOf f.type = s) :
    ∃ (z : DataW H × List MemPlace) (m : Nat), DataW.trod enc P w base spare held m f.type ((cs.drop o).take s) = some z ∧ ∀ q ∈ z.1.weights P f.type, q ∈ y.1.weights P e := by
  obtain ⟨ys, n', hn', hy, hlen, hyl, hf⟩ := DataW.trod_struct he h
  have h1 := hf j f hj
  have hjl : j < fs.size := (Array.getElem?_eq_some_iff.1 hj).1
  have hys : ys[j]? = some (ys[j]'(by omega)) := List.getElem?_eq_getElem (by omega)
  rw [ho, hs] at h1
  refine ⟨_, _, h1.trans hys, fun q hq => ?_⟩
  rw [hy]
  simp only [DataW.weights, he]
  refine DataW.weights_mem_each (j := j) (t := f.type) (d := (ys[j]'(by omega)).1) ?_ ?_ q hq
  · rw [List.getElem?_map, Array.getElem?_toList, hj]
    rfl
  · rw [List.getElem?_map, hys]
    rfl
end
end Shell
end Go.Proofs.YthcdbmbimdkcfaaDoor
