/- The keys of the document's table. -/
import Derived.Test.YtpmbbkhhnkhcbaaTab13
namespace Go.Proofs.Ytpmbbkhhnkhcbaa
open Go.RowKit ObjM Go.Maps
namespace TabD
open LabelM LabelD ValD

set_option maxRecDepth 100000 in
set_option maxHeartbeats 1000000 in
theorem rkey_no (B T lab : Nat) (fs : List Fd) (fv sv : Value) (n : Int) (hn : n < 1 ∨ (fs.length : Int) < n) (w : World) (h : IsR w B T lab fs fv sv) : Calls Try.prog 29 #[.pointer (some ⟨T, 0, none⟩), .int .i64 n] w (KeyNo w) := by
  have hA := (Below.refl w.heap.size w).alloc (Nat.le_refl _) (.cells #[.int .i64 0, .int .i64 0, .string ⟨#[]⟩, .int .u64 0] 35)
  obtain ⟨av, cap, rfl⟩ := own_slice h.2.1
  have t1 := (h.below hA).1.cell 1
  have hlT := (h.below hA).1.lt
  simp only [List.getElem?_cons_zero, List.getElem?_cons_succ] at t1
  have HA := Lib.hid hA
  clear hA h
  by_cases h1 : n < 1
  · go_enter Try.func29, Try.ntmps29
    go_wp2
    exact bodyPost_ret (v := .tuple #[.agg #[.int .i64 0, .int .i64 0, .string ⟨#[]⟩, .int .u64 0], .bool false]) (by simp [results, Try.results29, go_sem]) rfl ⟨rfl, HA.out⟩
  · have h2 : (fs.length : Int) < n := by omega
    clear hn
    go_enter Try.func29, Try.ntmps29
    go_wp2
    exact bodyPost_ret (v := .tuple #[.agg #[.int .i64 0, .int .i64 0, .string ⟨#[]⟩, .int .u64 0], .bool false]) (by simp [results, Try.results29, go_sem]) rfl ⟨rfl, HA.out⟩
set_option maxRecDepth 100000 in
set_option maxHeartbeats 2000000 in
theorem rkey_at (B T lab : Nat) (fs : List Fd) (fv sv : Value) (i : Nat) (f : Fd) (hf : fs[i]? = some f) (w : World) (h : IsR w B T lab fs fv sv) : Calls Try.prog 29 #[.pointer (some ⟨T, 0, none⟩), .int .i64 ((i : Int) + 1)] w (KeyAt w f.1) := by
  have hA := (Below.refl w.heap.size w).alloc (Nat.le_refl _) (.cells #[.int .i64 0, .int .i64 0, .string ⟨#[]⟩, .int .u64 0] 35)
  have hR : Has (w.alloc (.cells #[.int .i64 0, .int .i64 0, .string ⟨#[]⟩, .int .u64 0] 35)) w.heap.size 35 [.int .i64 0, .int .i64 0, .string ⟨#[]⟩, .int .u64 0] := Has.new w 35 [.int .i64 0, .int .i64 0, .string ⟨#[]⟩, .int .u64 0]
  obtain ⟨W1, hW1⟩ : ∃ W1, w.alloc (.cells #[.int .i64 0, .int .i64 0, .string ⟨#[]⟩, .int .u64 0] 35) = W1 := ⟨_, rfl⟩
  rw [hW1] at hA hR
  obtain ⟨av, cap, rfl⟩ := own_slice h.2.1
  have hlen : fs.length ≤ 1000000 := h.2.2.2.2
  have hi : i < fs.length := (List.getElem?_eq_some_iff.1 hf).1
  have hrow : ∀ j, j < 8 → ∀ u, (fcells f.1 f.2)[j]? = some u → (rowF fs)[i * 8 + j]? = some u := fun j hj u hu => by rw [rowF_at fs i f hf j hj]; exact hu
  obtain ⟨⟨x0, x1, x2, x3⟩, ⟨x4, x5, x6, x7⟩⟩ := f
  obtain ⟨g, hav, hgl, c0, c1, c2, c3⟩ : ∃ g, av = some ⟨g, 0, none⟩ ∧ g < W1.heap.size ∧ W1.cell? ⟨g, i * 8, none⟩ = some (.int .i64 x0) ∧ W1.cell? ⟨g, i * 8 + 1, none⟩ = some (.int .i64 x1) ∧ W1.cell? ⟨g, i * 8 + 2, none⟩ = some (.string x2) ∧ W1.cell? ⟨g, i * 8 + 3, none⟩ = some (.int .u64 (x3 : Int)) := by
    have hO := (h.below hA).2.1
    rcases own_shape hO with ⟨_, h9, _⟩ | ⟨g, cap, cs, hfv, _, hh, _⟩
    · omega
    · have hav : av = some ⟨g, 0, none⟩ := by injection hfv
      rw [hfv] at hO
      have go : ∀ j, j < 8 → ∀ u, (fcells ⟨x0, x1, x2, x3⟩ ⟨x4, x5, x6, x7⟩)[j]? = some u → W1.cell? ⟨g, i * 8 + j, none⟩ = some u := fun j hj u hu => by
        obtain ⟨hj2, hv2⟩ := List.getElem?_eq_some_iff.1 (hrow j hj u hu)
        rw [own_cell hO _ hj2, hv2]
      exact ⟨g, hav, hh.lt, go 0 (by omega) _ rfl, go 1 (by omega) _ rfl, go 2 (by omega) _ rfl, go 3 (by omega) _ rfl⟩
  subst hav
  have hT := (h.below hA).1
  have t1 := hT.cell 1
  have hlT := hT.lt
  simp only [List.getElem?_cons_zero, List.getElem?_cons_succ] at t1
  have hi1 : (i : Int) < (fs.length : Int) := by omega
  have hi2 : ¬ ((i : Int) + 1 < 1) := by omega
  have hi3 : ¬ ((fs.length : Int) < (i : Int) + 1) := by omega
  have r0 := hR.cell 0
  have r1 := hR.cell 1
  have r2 := hR.cell 2
  have r3 := hR.cell 3
  have y0 := hR.frozen 0
  have y1 := hR.frozen 1
  have y2 := hR.frozen 2
  have y3 := hR.frozen 3
  have hlr := hR.lt
  simp only [List.getElem?_cons_zero, List.getElem?_cons_succ] at r0 r1 r2 r3
  have HA := Lib.hid (set4_below (x0 := .int .i64 x0) (x1 := .int .i64 x1) (x2 := .string x2) (x3 := .int .u64 (x3 : Int)) (b := w.heap.size) hA (Nat.le_refl _))
  have hE := set4_self (x0 := .int .i64 x0) (x1 := .int .i64 x1) (x2 := .string x2) (x3 := .int .u64 (x3 : Int)) hR
  have HE := Lib.hid hE
  clear h hA hR hrow hf hT hE
  go_enter Try.func29, Try.ntmps29
  go_wp2
  have e0 := HE.out.cell 0
  have e1 := HE.out.cell 1
  have e2 := HE.out.cell 2
  have e3 := HE.out.cell 3
  simp only [List.getElem?_cons_zero, List.getElem?_cons_succ] at e0 e1 e2 e3
  generalize World.setCell _ ⟨_, 3, none⟩ _ = W9 at HA e0 e1 e2 e3 ⊢
  exact bodyPost_ret (v := .tuple #[.agg #[.int .i64 x0, .int .i64 x1, .string x2, .int .u64 (x3 : Int)], .bool true]) (by simp [results, Try.results29, go_sem, e0, e1, e2, e3]) rfl ⟨rfl, HA.out⟩
end TabD
end Go.Proofs.Ytpmbbkhhnkhcbaa
