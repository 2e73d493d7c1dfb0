/- The contracts of package value, where nothing goes wrong. -/
import Derived.Test.YtbkfmoplgcnejaaDoorNumDo
import Derived.Test.YtbkfmoplgcnejaaDoorLabel
import Derived.Test.YtbkfmoplgcnejaaDoorObj
import Derived.Test.YtbkfmoplgcnejaaDoorShellCells
import Derived.Defers
import Derived.Recover
import Derived.Deep.RegionHeld3
import Derived.Tactics2
import Derived.Outline
import Derived.BigQuiet
namespace Go.Proofs.YtbkfmoplgcnejaaDoor
open Go.RowKit ObjM
namespace ValD
open NumM LabelM LabelD

/-- A value: its kind, number, text, label. -/
structure V where
  k : Int
  n : Int
  s : ByteArray
  l : Nat
def V.cells (v : V) : Array Value := #[.int .i64 v.k, .int .i64 v.n, .string v.s, .int .u64 (v.l : Int)]
def V.agg (v : V) : Value := .agg #[.int .i64 v.k, .int .i64 v.n, .string v.s, .int .u64 (v.l : Int)]
def flagV (b : Bool) : V := ⟨1, if b then 1 else 0, ⟨#[]⟩, 0⟩
def sameB (a b : V) : Bool := (a.k == b.k) && (a.n == b.n) && (a.s.toList == b.s.toList)
def truthB (a : V) : Bool := (a.k != 0) && ((a.k != 1) || (a.n != 0))

def checkB (a : V) : Bool := if (a.s.toList != []) && (a.k != 3) then false else if a.k = 0 ∨ a.k = 3 then a.n == 0 else if a.k = 1 then (a.n == 0) || (a.n == 1) else if a.k = 2 then true else if a.k = 4 ∨ a.k = 5 ∨ a.k = 6 then decide (0 ≤ a.n) else false
theorem alloc2 {w : World} {o p : Go.Obj} : Below w.heap.size w ((w.alloc o).alloc p) := ((Below.refl _ w).alloc (Nat.le_refl _) _).alloc (by simp) _
theorem alloc1 {w : World} {o : Go.Obj} : Below w.heap.size w (w.alloc o) := (Below.refl _ w).alloc (Nat.le_refl _) _
set_option maxRecDepth 100000 in
set_option maxHeartbeats 1000000 in
theorem same_any (a b : V) (w : World) : Calls Tryd.prog 44 #[a.agg, b.agg] w fun e w' => e = .returned (.bool (sameB a b)) ∧ Below w.heap.size w w' := by
  obtain ⟨ak, an, sa, al⟩ := a
  obtain ⟨bk, bn, sb, bl⟩ := b
  simp only [V.agg]
  go_enter Tryd.func44, Tryd.ntmps44
  go_wp2
  all_goals
    go_ret
    exact ⟨ret_bool (by simp_all [sameB]), alloc2⟩
set_option maxRecDepth 100000 in
set_option maxHeartbeats 1000000 in
theorem refSame_any (a b : V) (w : World) : Calls Tryd.prog 20 #[a.agg, b.agg] w fun e w' => e = .returned (.bool (sameB a b)) ∧ Below w.heap.size w w' := by
  obtain ⟨ak, an, sa, al⟩ := a
  obtain ⟨bk, bn, sb, bl⟩ := b
  simp only [V.agg]
  go_enter Tryd.func20, Tryd.ntmps20
  go_wp2
  all_goals
    go_ret
    exact ⟨ret_bool (by simp_all [sameB]), alloc2⟩
set_option maxRecDepth 100000 in
set_option maxHeartbeats 2000000 in
theorem check_any (a : V) (w : World) : Calls Tryd.prog 64 #[a.agg] w fun e w' => e = .returned (.bool (checkB a)) ∧ Below w.heap.size w w' := by
  obtain ⟨ak, an, sa, al⟩ := a
  simp only [V.agg]
  go_enter Tryd.func64, Tryd.ntmps64
  go_wp2
  all_goals
    go_ret
    exact ⟨ret_bool (by (try simp only [beq_iff_eq, beq_eq_false_iff_ne, ne_eq] at *); unfold checkB; (repeat' split) <;> simp_all <;> omega), alloc1⟩
def negV (a : V) : V := if a.k = 2 then ⟨2, wrap64 (-a.n), ⟨#[]⟩, a.l⟩ else ⟨0, 0, ⟨#[]⟩, a.l⟩
def negS (a : V) : ByteArray := if a.k = 2 then ⟨#[]⟩ else ⟨#[97, 114, 105, 116, 104]⟩
theorem join2_any (a b : Nat) (ha : a < M64) (hb : b < M64) (w : World) (n : Nat) (hn : n = w.heap.size) :
    Calls Tryd.prog 50 #[.slice (some ⟨n, 0, none⟩) 2 2] (w.alloc (.cells #[.int .u64 a, .int .u64 b] 23)) fun e w' => e = .returned (.int .u64 ((a ||| b : Nat) : Int)) ∧ w.alloc (.cells #[.int .u64 a, .int .u64 b] 23) = w' := by
  subst hn
  have h := join_any w.heap.size 0 2 [a, b] (by intro x hx; simp at hx; rcases hx with rfl | rfl <;> assumption) (by simp) (w.alloc (.cells #[.int .u64 a, .int .u64 b] 23)) (by
    intro j x hx
    rw [World.cell?_alloc_at _ _ _ _ rfl]
    match j, hx with
    | 0, hx => simp at hx; subst hx; rfl
    | 1, hx => simp at hx; subst hx; rfl)
  rw [show joinL [a, b] = a ||| b by simp [joinL]] at h
  exact h
theorem join2c (a b : Nat) (ha : a < M64) (hb : b < M64) (w : World) (n : Nat) (c0 : w.cell? ⟨n, 0, none⟩ = some (.int .u64 a)) (c1 : w.cell? ⟨n, 1, none⟩ = some (.int .u64 b)) :
    Calls Tryd.prog 50 #[.slice (some ⟨n, 0, none⟩) 2 2] w fun e w' => e = .returned (.int .u64 ((a ||| b : Nat) : Int)) ∧ w = w' := by
  have h := join_any n 0 2 [a, b] (by intro x hx; simp at hx; rcases hx with rfl | rfl <;> assumption) (by simp) w (by
    intro j x hx
    match j, hx with
    | 0, hx => simp at hx; subst hx; exact c0
    | 1, hx => simp at hx; subst hx; exact c1)
  rw [show joinL [a, b] = a ||| b by simp [joinL]] at h
  exact h
/-- Two labels in a new row behind two new blocks, a draw behind. -/
theorem join2d (a b : Nat) (ha : a < M64) (hb : b < M64) (w : World) (o p : Go.Obj) :
    Calls Tryd.prog 50 #[.slice (some ⟨w.heap.size + 1 + 1, 0, none⟩) 2 2] (((w.alloc o).alloc p).alloc (.cells #[.int .u64 a, .int .u64 b] 23)).drew fun e w' => e = .returned (.int .u64 ((a ||| b : Nat) : Int)) ∧ (((w.alloc o).alloc p).alloc (.cells #[.int .u64 a, .int .u64 b] 23)).drew = w' := by
  have h := (Has.new ((w.alloc o).alloc p) 23 [.int .u64 (a : Int), .int .u64 (b : Int)]).drew
  have h0 := h.cell 0
  have h1 := h.cell 1
  simp only [World.size_alloc] at h0 h1
  exact join2c a b ha hb _ _ h0 h1
theorem join1_any (a : Nat) (ha : a < M64) (w : World) (n : Nat) (hc : w.cell? ⟨n, 0, none⟩ = some (.int .u64 a)) :
    Calls Tryd.prog 50 #[.slice (some ⟨n, 0, none⟩) 1 1] w fun e w' => e = .returned (.int .u64 (a : Int)) ∧ w = w' := by
  have h := join_any n 0 1 [a] (by intro x hx; simp at hx; rcases hx with rfl; assumption) (by simp) w (by
    intro j x hx
    match j, hx with
    | 0, hx => simp at hx; subst hx; exact hc)
  rw [show joinL [a] = a by simp [joinL]] at h
  exact h
def V.with (a : V) (x : Nat) : V := ⟨a.k, a.n, a.s, a.l ||| x⟩

set_option maxRecDepth 100000 in
set_option maxHeartbeats 1000000 in
theorem with_any (a : V) (lv : Value) (x : Nat) (ha : a.l < M64) (hx : x < M64) (w : World) (hj : ∀ W, Below w.heap.size w W → Calls Tryd.prog 50 #[lv] W fun e w' => e = .returned (.int .u64 x) ∧ W = w') :
    Calls Tryd.prog 42 #[a.agg, lv] w fun e w' => e = .returned (a.with x).agg ∧ Below w.heap.size w w' := by
  have HJ1 := Lib.hid hj
  clear hj
  obtain ⟨ak, an, sa, al⟩ := a
  simp only [V.agg, V.with] at ha ⊢
  have HJ2 := fun o p => Lib.hid (join2d al x ha hx w o p)
  go_enter Tryd.func42, Tryd.ntmps42
  go_wp2
  go_region_with
    (first
      | (go_at_call 50
         with_reducible refine (HJ1.out _ ((alloc2).drew)).mono ?_
         rintro e w1 ⟨rfl, hw⟩
         subst hw)
      | (go_at_call 50
         with_reducible refine ((HJ2 _ _).out).mono ?_
         rintro e w1 ⟨rfl, hw⟩
         subst hw))
  all_goals
    go_wp2
    refine bodyPost_ret (v := .agg #[.int .i64 ak, .int .i64 an, .string sa, .int .u64 ((al ||| x : Nat) : Int)]) (by simp [results, Tryd.results42, go_sem]) rfl ⟨rfl, ?_⟩
    exact (((alloc2).trans (alloc1.mono (by simp; omega))).drew)
end ValD
end Go.Proofs.YtbkfmoplgcnejaaDoor
