/- The contracts of package value, where nothing goes wrong. -/
import Derived.Test.YtmebhdffgpnplaaDoorNumDo
import Derived.Test.YtmebhdffgpnplaaDoorLabel
import Derived.Test.YtmebhdffgpnplaaDoorObj
import Derived.Test.YtmebhdffgpnplaaDoorShellCells
import Derived.Defers
import Derived.Recover
import Derived.Deep.RegionHeld3
import Derived.Tactics2
import Derived.Outline
import Derived.BigQuiet
namespace Go.Proofs.YtmebhdffgpnplaaDoor
open Go.RowKit ObjM
namespace ValD
open NumM LabelM LabelD

/-- A value: its kind, number, text, label. -/
structure V where
  k : Int
  n : Int
  s : ByteArray
  l : Nat
def V.cells (v : V) : Array Value := #[.int .i64 v.k, .int .i64 v.n, .string v.s, .int .u64 (v.l : Int)]
def V.agg (v : V) : Value := .agg #[.int .i64 v.k, .int .i64 v.n, .string v.s, .int .u64 (v.l : Int)]
def flagV (b : Bool) : V := ⟨1, if b then 1 else 0, ⟨#[]⟩, 0⟩
def sameB (a b : V) : Bool := (a.k == b.k) && (a.n == b.n) && (a.s.toList == b.s.toList)
def truthB (a : V) : Bool := (a.k != 0) && ((a.k != 1) || (a.n != 0))

def checkB (a : V) : Bool := if (a.s.toList != []) && (a.k != 3) then false else if a.k = 0 ∨ a.k = 3 then a.n == 0 else if a.k = 1 then (a.n == 0) || (a.n == 1) else if a.k = 2 then true else if a.k = 4 ∨ a.k = 5 ∨ a.k = 6 then decide (0 ≤ a.n) else false
theorem alloc2 {w : World} {o p : Go.Obj} : Below w.heap.size w ((w.alloc o).alloc p) := ((Below.refl _ w).alloc (Nat.le_refl _) _).alloc (by simp) _
theorem alloc1 {w : World} {o : Go.Obj} : Below w.heap.size w (w.alloc o) := (Below.refl _ w).alloc (Nat.le_refl _) _
set_option maxRecDepth 100000 in
set_option maxHeartbeats 2000000 in
theorem check_any (a : V) (w : World) : Calls Tryd.prog 82 #[a.agg] w fun e w' => e = .returned (.bool (checkB a)) ∧ Below w.heap.size w w' := by
  obtain ⟨ak, an, sa, al⟩ := a
  simp only [V.agg]
  go_enter Tryd.func82, Tryd.ntmps82
  go_wp2
  all_goals
    go_ret
    exact ⟨ret_bool (by (try simp only [beq_iff_eq, beq_eq_false_iff_ne, ne_eq] at *); unfold checkB; (repeat' split) <;> simp_all <;> omega), alloc1⟩
def negV (a : V) : V := if a.k = 2 then ⟨2, wrap64 (-a.n), ⟨#[]⟩, a.l⟩ else ⟨0, 0, ⟨#[]⟩, a.l⟩
def negS (a : V) : ByteArray := if a.k = 2 then ⟨#[]⟩ else ⟨#[97, 114, 105, 116, 104]⟩
def V.with (a : V) (x : Nat) : V := ⟨a.k, a.n, a.s, a.l ||| x⟩

end ValD
end Go.Proofs.YtmebhdffgpnplaaDoor
