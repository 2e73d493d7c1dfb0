/- The contracts of the document's own answers for layer 15. -/
import Derived.Test.YtmebhdffgpnplaaDoorInstr
import Derived.Test.YtmebhdffgpnplaaDoorInstrMore
import Derived.BigQuiet
import Derived.Deep.QuietTactic
namespace Go.Proofs.YtmebhdffgpnplaaDoor
open Go.RowKit
namespace InstrD
open InstrM
theorem ret_ss {x y x' y' : List UInt8} (h : x = x') (g : y = y') : Ending.returned (.tuple #[.string ⟨x.toArray⟩, .string ⟨y.toArray⟩]) = .returned (.tuple #[.string ⟨x'.toArray⟩, .string ⟨y'.toArray⟩]) := by rw [h, g]
theorem alloc_at (w : World) (o : Obj) (n : Nat) (hn : n = w.heap.size) : (w.alloc o).heap[n]? = some o := by rw [hn]; exact alloc_new w o
theorem map_at {α β : Type} (l : List α) (f : α → β) (k : Nat) (d : α) (h : k < l.length) : (l.map f)[k]? = some (f (l.getD k d)) := by
  rw [List.getElem?_map, List.getD_eq_getElem?_getD, List.getElem?_eq_getElem h]
  rfl
theorem cells_at {w : World} {B : Nat} {t : TypeId} {vs : List Value} (h : w.heap[B]? = some (.cells vs.toArray t (0, 0))) (i : Nat) : w.cell? ⟨B, i, none⟩ = vs[i]? := by rw [block_cell h]; simp

set_option maxHeartbeats 1000000 in
set_option maxRecDepth 100000 in
theorem second_any (op : Int) (h : 11 ≤ op) (w : World) :
    Calls Tryd.prog 75 #[.int .i64 op] w fun e w' => e = .returned (.tuple #[.string ⟨(nameOf op).toArray⟩, .string ⟨(formOf op).toArray⟩]) ∧ Below w.heap.size w w' := by
  go_enter Tryd.func75, Tryd.ntmps75
  go_wp2
  generalize hW : World.alloc (World.alloc (World.alloc w _) _) _ = W3
  have hN : W3.heap[w.heap.size]? = some (.cells (namesL.map fun l => Value.string ⟨l.toArray⟩).toArray 9 (0, 0)) := by
    rw [← hW]
    exact (Below.heap_alloc _ _ _ (by simp only [World.size_alloc]; omega)).trans ((Below.heap_alloc _ _ _ (by simp only [World.size_alloc]; omega)).trans (alloc_new _ _))
  have hF : W3.heap[w.heap.size + 1]? = some (.cells (formsL.map fun l => Value.string ⟨l.toArray⟩).toArray 9 (0, 0)) := by
    rw [← hW]
    exact (Below.heap_alloc _ _ _ (by simp only [World.size_alloc]; omega)).trans (alloc_at _ _ _ (by simp only [World.size_alloc]))
  have hK : W3.heap[w.heap.size + 1 + 1]? = some (.cells (keysL.map fun n => Value.int .i64 n).toArray 3 (0, 0)) := by
    rw [← hW]
    exact alloc_at _ _ _ (by simp only [World.size_alloc])
  have hB : Below w.heap.size w W3 := by
    rw [← hW]
    exact (((Below.refl _ _).alloc (Nat.le_refl _) _).alloc (by simp) _).alloc (by simp; omega) _
  clear hW
  go_loop [12] (fun i => ∃ k : Nat, k ≤ 45 ∧ i = .int .i64 k ∧ Hid (∀ j < k, keysL.getD j 0 ≠ op)) (fun i => 45 - (intOf i).toNat)
  case atStart => exact ⟨0, by omega, rfl, fun j hj => absurd hj (by omega)⟩
  case round =>
    obtain ⟨k, hk, rfl, HD⟩ := hrel
    by_cases hlt : k < 45
    · have c1 : W3.cell? ⟨w.heap.size, k, none⟩ = some (.string ⟨(namesL.getD k []).toArray⟩) := (cells_at hN k).trans (map_at _ _ k [] hlt)
      have c2 : W3.cell? ⟨w.heap.size + 1, k, none⟩ = some (.string ⟨(formsL.getD k []).toArray⟩) := (cells_at hF k).trans (map_at _ _ k [] hlt)
      have c3 : W3.cell? ⟨w.heap.size + 1 + 1, k, none⟩ = some (.int .i64 (keysL.getD k 0)) := (cells_at hK k).trans (map_at _ _ k 0 hlt)
      obtain ⟨n, hn⟩ : ∃ n, keysL.getD k 0 = n := ⟨_, rfl⟩
      obtain ⟨N, hN2⟩ : ∃ n, namesL.getD k [] = n := ⟨_, rfl⟩
      obtain ⟨M, hM2⟩ : ∃ n, formsL.getD k [] = n := ⟨_, rfl⟩
      have hat := keys_at k hlt
      rw [hn, hN2, hM2] at hat
      rw [hN2] at c1
      rw [hM2] at c2
      rw [hn] at c3
      have Hat := Lib.hid hat
      have Hn := Lib.hid hn
      clear hat hn hN2 hM2
      by_cases he : n = op
      · subst he
        go_wp2
        go_quiet (fail)
        go_wp2
        go_ret2
        exact ⟨ret_ss Hat.out.1.symm Hat.out.2.symm, below_drewN hB _⟩
      · have hne : (n == op) = false := by simpa using he
        have hD2 : ∀ j < k + 1, keysL.getD j 0 ≠ op := fun j hj => by
          rcases Nat.lt_succ_iff_lt_or_eq.1 hj with hj | rfl
          · exact HD.out j hj
          · rw [Hn.out]; exact he
        have HD2 := Lib.hid hD2
        clear hD2 he
        go_wp2
        go_round
        case rel => exact ⟨k + 1, by omega, by go_num, HD2⟩
        case measure => simp [intOf]; omega
    · obtain rfl : k = 45 := by omega
      have hz := Lib.hid (keys_none h HD.out)
      go_wp2
      go_ret2
      exact ⟨ret_ss hz.out.1.symm hz.out.2.symm, hB⟩

set_option maxHeartbeats 1000000 in
theorem first_any (op : Int) (h : op < 11) (w : World) :
    Calls Tryd.prog 74 #[.int .i64 op] w fun e w' => e = .returned (.tuple #[.string ⟨(nameOf op).toArray⟩, .string ⟨(formOf op).toArray⟩]) ∧ w = w' := by
  have H : ∀ k : Nat, k < 10 → 1 ≤ k → (k : Int) = op → ∀ W, Hid (Calls Tryd.prog 74 #[.int .i64 k] W fun e w' => e = .returned (.tuple #[.string ⟨(nameOf k).toArray⟩, .string ⟨(formOf k).toArray⟩]) ∧ W = w') := by
    intro k hk h1 he W
    clear he h
    have hc : k = 1 ∨ k = 2 ∨ k = 3 ∨ k = 4 ∨ k = 5 ∨ k = 6 ∨ k = 7 ∨ k = 8 ∨ k = 9 := by omega
    show Calls _ _ _ _ _
    rcases hc with rfl | rfl | rfl | rfl | rfl | rfl | rfl | rfl | rfl
    all_goals
      clear hk h1
      go_enter Tryd.func74, Tryd.ntmps74
      go_wp2
      go_ret2
      exact ⟨ret_ss (by decide +kernel) (by decide +kernel), rfl⟩
  by_cases hx : ∃ k : Nat, k < 10 ∧ 1 ≤ k ∧ (k : Int) = op
  · obtain ⟨k, hk, h1, rfl⟩ := hx
    exact (H k hk h1 rfl w).out
  · have hn := first_none h (fun k hk h1 he => hx ⟨k, hk, h1, he⟩)
    have Hn := Lib.hid hn
    have t1 : (op == 1) = false := by rw [beq_eq_false_iff_ne]; intro e; exact hx ⟨1, by omega, by omega, e.symm⟩
    have t2 : (op == 2) = false := by rw [beq_eq_false_iff_ne]; intro e; exact hx ⟨2, by omega, by omega, e.symm⟩
    have t3 : (op == 3) = false := by rw [beq_eq_false_iff_ne]; intro e; exact hx ⟨3, by omega, by omega, e.symm⟩
    have t4 : (op == 4) = false := by rw [beq_eq_false_iff_ne]; intro e; exact hx ⟨4, by omega, by omega, e.symm⟩
    have t5 : (op == 5) = false := by rw [beq_eq_false_iff_ne]; intro e; exact hx ⟨5, by omega, by omega, e.symm⟩
    have t6 : (op == 6) = false := by rw [beq_eq_false_iff_ne]; intro e; exact hx ⟨6, by omega, by omega, e.symm⟩
    have t7 : (op == 7) = false := by rw [beq_eq_false_iff_ne]; intro e; exact hx ⟨7, by omega, by omega, e.symm⟩
    have t8 : (op == 8) = false := by rw [beq_eq_false_iff_ne]; intro e; exact hx ⟨8, by omega, by omega, e.symm⟩
    have t9 : (op == 9) = false := by rw [beq_eq_false_iff_ne]; intro e; exact hx ⟨9, by omega, by omega, e.symm⟩
    clear H hx hn
    go_enter Tryd.func74, Tryd.ntmps74
    go_wp2
    go_ret2
    exact ⟨ret_ss Hn.out.1.symm Hn.out.2.symm, rfl⟩

set_option maxHeartbeats 400000 in
theorem row_any (op : Int) (w : World) :
    Calls Tryd.prog 54 #[.int .i64 op] w fun e w' => e = .returned (.tuple #[.string ⟨(nameOf op).toArray⟩, .string ⟨(formOf op).toArray⟩]) ∧ Below w.heap.size w w' := by
  by_cases h : op < 11
  · have H := fun W => Lib.hid (first_any op h W)
    go_enter Tryd.func54, Tryd.ntmps54
    go_wp2_with fail
    refine ((H _).out).mono ?_
    rintro e w' ⟨rfl, rfl⟩
    go_wp2
    go_ret2
    exact ⟨rfl, Below.refl _ _⟩
  · have H := fun W => Lib.hid (second_any op (by omega) W)
    go_enter Tryd.func54, Tryd.ntmps54
    go_wp2_with fail
    refine ((H _).out).mono ?_
    rintro e w' ⟨rfl, hb⟩
    go_wp2
    go_ret2
    exact ⟨rfl, hb⟩

end InstrD
end Go.Proofs.YtmebhdffgpnplaaDoor
