/- Guards as plain data: a label, regions, the topmost last. Nothing of the program is named. -/
import Derived.Test.YtnlblmdmhfahpaaLabelMath
namespace Go.Proofs.Ytnlblmdmhfahpaa
open Go.RowKit
namespace GuardM
open LabelM

/-- A region: where it ends, its tag, the label ahead of it. -/
structure Reg where
  join : Int
  tag : Int
  was : Nat
/-- A region as its cells. -/
def Reg.cells (r : Reg) : List Value := [.int .i64 r.join, .int .i64 r.tag, .int .u64 (r.was : Int)]
def rowV (rs : List Reg) : List Value := rs.flatMap Reg.cells
theorem rowV_len (rs : List Reg) : (rowV rs).length = rs.length * 3 := by
  induction rs with
  | nil => rfl
  | cons r s ih =>
    unfold rowV at ih ⊢
    rw [List.flatMap_cons, List.length_append, ih]
    simp [Reg.cells]
    omega
theorem rowV_snoc (rs : List Reg) (r : Reg) : rowV (rs ++ [r]) = rowV rs ++ [.int .i64 r.join, .int .i64 r.tag, .int .u64 (r.was : Int)] := by
  unfold rowV
  rw [List.flatMap_append]
  rfl
theorem rowV_take (rs : List Reg) (r : Reg) : (rowV (rs ++ [r])).take (rs.length * 3) = rowV rs := by
  rw [rowV_snoc, ← rowV_len]
  exact List.take_left
theorem rowV_last (rs : List Reg) (r : Reg) : (rowV (rs ++ [r]))[rs.length * 3]? = some (.int .i64 r.join) ∧ (rowV (rs ++ [r]))[rs.length * 3 + 1]? = some (.int .i64 r.tag) ∧ (rowV (rs ++ [r]))[rs.length * 3 + 2]? = some (.int .u64 (r.was : Int)) := by
  rw [rowV_snoc, ← rowV_len]
  refine ⟨?_, ?_, ?_⟩
  · rw [List.getElem?_append_right (by omega), Nat.sub_self]; rfl
  · rw [List.getElem?_append_right (by omega), show (rowV rs).length + 1 - (rowV rs).length = 1 by omega]; rfl
  · rw [List.getElem?_append_right (by omega), show (rowV rs).length + 2 - (rowV rs).length = 2 by omega]; rfl
/-- Whether the topmost region ends there. -/
def topAt (rs : List Reg) (j : Int) : Bool := match rs.getLast? with | some r => r.join == j | none => false
def branchR (rs : List Reg) (lab : Nat) (j t : Int) : List Reg := if topAt rs j = true then rs else rs ++ [⟨j, t, lab⟩]
/-- The topmost regions that end there go; their tags, and the label ahead of the last. -/
def atGo (j : Int) : Nat → List Reg → Nat → List Int → List Reg × Nat × List Int
  | 0, rs, lab, tags => (rs, lab, tags)
  | n + 1, rs, lab, tags => match rs.getLast? with
    | none => (rs, lab, tags)
    | some r => if r.join = j then atGo j n rs.dropLast r.was (tags ++ [r.tag]) else (rs, lab, tags)
def atR (j : Int) (rs : List Reg) (lab : Nat) : List Reg × Nat × List Int := if j < 0 then (rs, lab, []) else atGo j (rs.length + 1) rs lab []
def Small (rs : List Reg) : Prop := ∀ r ∈ rs, r.was < M64
end GuardM
end Go.Proofs.Ytnlblmdmhfahpaa
