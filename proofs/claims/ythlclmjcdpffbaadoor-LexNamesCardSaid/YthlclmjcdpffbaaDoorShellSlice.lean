/- A slice of numbers among a law's arguments, opened. Nothing of the program is named. -/
import Derived.Test.YthlclmjcdpffbaaDoorShell
import Derived.ChangeSlices
namespace Go.Proofs.YthlclmjcdpffbaaDoor
open Go.RowKit Go.WideShapes Go.ChangeShapes
namespace Shell

/-- A value that is a slice with these numbers. -/
def IntsAt (W : World) (k : IntKind) (v : Value) (zs : List Int) : Prop :=
  (v = .slice none 0 0 ∧ zs = []) ∨ ∃ b o cap, v = .slice (some ⟨b, o, none⟩) zs.length cap ∧ zs.length ≤ cap ∧ cap ≤ 9223372036854775807 ∧ b < W.heap.size ∧
    ∀ (j : Nat) x, zs[j]? = some x → W.cell? ⟨b, o + j, none⟩ = some (.int k x)
theorem IntsAt.len {W : World} {k : IntKind} {v : Value} {zs : List Int} (h : IntsAt W k v zs) : zs.length ≤ 9223372036854775807 := by
  rcases h with ⟨-, rfl⟩ | ⟨_, _, _, _, h1, h2, _⟩
  · simp
  · omega
theorem IntsAt.below {W W' : World} {k : IntKind} {v : Value} {zs : List Int} (h : IntsAt W k v zs) {B : Nat} (hb : Below B W W') (hB : W.heap.size ≤ B) : IntsAt W' k v zs := by
  rcases h with h | ⟨b, o, cap, h1, h2, h3, h4, h5⟩
  · exact .inl h
  · exact .inr ⟨b, o, cap, h1, h2, h3, Nat.lt_of_lt_of_le h4 hb.size, fun j x hx => (hb.cell (p := ⟨b, o + j, none⟩) (by simp; omega)).trans (h5 j x hx)⟩

section
variable {H : Type} {enc : TypeId × Value → H} {P : Program} {W : World}
theorem open_slice_ints {b0 : Nat} {t e : TypeId} {k : IntKind} {v : Value} {d : DataW H} {ps : List MemPlace} {sp : Nat → Bool} (ht : P.underlying t = some (.slice e)) (he : P.underlying e = some (.int k)) (hc : P.cellsOf e = 1)
    (hval : Value.okWide P W .any b0 t v) (hd : DataW.Trod enc P W 0 sp true t v d ps) : ∃ zs : List Int, IntsAt W k v zs ∧ ∀ n ∈ zs, (Lit.int k n).wf = true := by
  have hcell : Cell.ok P W .any b0 t v := by
    have h := hval
    unfold Value.okWide at h
    rw [ht] at h
    simp only at h
    unfold Cell.okWide at h
    rw [ht] at h
    exact h
  obtain ⟨a0, len0, cap0, rfl⟩ := okWide_slice ht hval
  obtain ⟨fuel, hf⟩ := hd
  rcases open_ints ht he hc hf with ⟨hcs, hx⟩ | ⟨a, len1, cap1, zs, hcs, _, hle, hmax, hall, hx, hce, hwf⟩
  · simp [Value.cells] at hcs
    obtain ⟨rfl, rfl, rfl⟩ := hcs
    exact ⟨[], .inl ⟨rfl, rfl⟩, by simp⟩
  · simp [Value.cells] at hcs
    obtain ⟨e1, e2, e3⟩ := hcs
    subst e1 e2 e3
    unfold Cell.ok at hcell
    rw [ht] at hcell
    simp only at hcell
    obtain ⟨_, _, _, hs, row, cells, hsh, _⟩ := hcell
    have hblt : a.block < W.heap.size := by
      unfold World.shape? at hsh
      split at hsh
      · rename_i hb
        exact (Array.getElem?_eq_some_iff.1 hb).1
      · cases hsh
    have hlen : len0 ≤ zs.length := by rw [hall]; split <;> omega
    obtain ⟨b, o, s⟩ := a
    simp only at hs
    subst hs
    refine ⟨zs.take len0, .inr ⟨b, o, cap0, by simp [Nat.min_eq_left hlen], by simp; omega, by unfold maxLen at hmax; omega, hblt, ?_⟩, fun n hn => hwf n (List.mem_of_mem_take hn)⟩
    intro j x hx
    rw [List.getElem?_take] at hx
    split at hx
    · have hj := (List.getElem?_eq_some_iff.1 hx).1
      have h := hce j hj
      rw [List.getD_eq_getElem?_getD, hx] at h
      refine Eq.trans (congrArg W.cell? ?_) h
      unfold Addr.add
      split
      · rename_i h0
        subst h0
        rfl
      · rfl
    · cases hx
end
end Shell
end Go.Proofs.YthlclmjcdpffbaaDoor
