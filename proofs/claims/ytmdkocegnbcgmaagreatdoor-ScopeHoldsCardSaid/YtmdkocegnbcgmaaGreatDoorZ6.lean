/- What is there from the beginning; few nodes. -/
import Derived.Test.YtmdkocegnbcgmaaGreatDoorZ5
import Derived.WalkKit
import Derived.LoopTactic
import Derived.RegionTactic
import Derived.BigQuiet
import Derived.Lib.Strings
namespace Go.Proofs.YtmdkocegnbcgmaaGreatDoor
open Go.RowKit ObjM
namespace TreeD

def B1 : List ByteArray := [⟨#[114, 101, 97, 100]⟩, ⟨#[112, 99, 97, 108, 108]⟩, ⟨#[101, 114, 114, 111, 114]⟩, ⟨#[116, 121, 112, 101]⟩, ⟨#[99, 114, 101, 97, 116, 101]⟩, ⟨#[121, 105, 101, 108, 100]⟩, ⟨#[115, 116, 97, 116, 117, 115]⟩]
def B2 : List ByteArray := [⟨#[119, 114, 105, 116, 101]⟩, ⟨#[107, 101, 121]⟩, ⟨#[114, 101, 115, 117, 109, 101]⟩]
def memB (l : List ByteArray) (s : ByteArray) : Bool := l.any fun x => x.data.toList == s.data.toList
theorem memB_iff (l : List ByteArray) (s : ByteArray) : memB l s = true ↔ s ∈ l := by
  unfold memB
  rw [List.any_eq_true]
  constructor
  · rintro ⟨x, hx, e⟩
    have e2 : x.data.toList = s.data.toList := by simpa using e
    have : x = s := by
      cases x; cases s
      congr 1
      exact Array.ext' e2
    exact this ▸ hx
  · intro h
    exact ⟨s, h, by simp⟩
def builtinV (s : ByteArray) : Int := if memB B1 s = true then 1 else if memB B2 s = true then 2 else -1
theorem bv_one {s : ByteArray} (h : s ∈ B1) : builtinV s = 1 := by unfold builtinV; rw [if_pos ((memB_iff _ _).2 h)]
theorem bv_two {s : ByteArray} (h : ¬ s ∈ B1) (h2 : s ∈ B2) : builtinV s = 2 := by unfold builtinV; rw [if_neg (fun e => h ((memB_iff _ _).1 e)), if_pos ((memB_iff _ _).2 h2)]
theorem bv_no {s : ByteArray} (h : ¬ s ∈ B1) (h2 : ¬ s ∈ B2) : builtinV s = -1 := by unfold builtinV; rw [if_neg (fun e => h ((memB_iff _ _).1 e)), if_neg (fun e => h2 ((memB_iff _ _).1 e))]
theorem ne_list {s : ByteArray} {l : List UInt8} (h : ¬ s = ⟨l.toArray⟩) : (s.toList == l) = false := by
  rw [ByteArray.toList_eq]
  simp only [beq_eq_false_iff_ne, ne_eq]
  intro e
  apply h
  cases s
  congr 1
  rw [← e]
set_option maxRecDepth 100000 in
set_option maxHeartbeats 4000000 in
theorem builtin_any (s : ByteArray) (w : World) : Calls Tryz.prog 107 #[.string s] w fun e w' => e = .returned (.int .i64 (builtinV s)) ∧ w = w' := by
  by_cases h1 : s ∈ B1
  · rw [bv_one h1]
    simp only [B1, List.mem_cons, List.not_mem_nil, or_false] at h1
    rcases h1 with rfl | rfl | rfl | rfl | rfl | rfl | rfl
    all_goals
      go_enter Tryz.func107, Tryz.ntmps107
      go_wp2
      go_ret
      exact ⟨rfl, rfl⟩
  · by_cases h2 : s ∈ B2
    · rw [bv_two h1 h2]
      simp only [B2, List.mem_cons, List.not_mem_nil, or_false] at h2
      clear h1
      rcases h2 with rfl | rfl | rfl
      all_goals
        go_enter Tryz.func107, Tryz.ntmps107
        go_wp2
        go_ret
        exact ⟨rfl, rfl⟩
    · rw [bv_no h1 h2]
      simp only [B1, B2, List.mem_cons, List.not_mem_nil, or_false, not_or] at h1 h2
      obtain ⟨a0, a1, a2, a3, a4, a5, a6⟩ := h1
      obtain ⟨c0, c1, c2⟩ := h2
      replace a0 := ne_list a0
      replace a1 := ne_list a1
      replace a2 := ne_list a2
      replace a3 := ne_list a3
      replace a4 := ne_list a4
      replace a5 := ne_list a5
      replace a6 := ne_list a6
      replace c0 := ne_list c0
      replace c1 := ne_list c1
      replace c2 := ne_list c2
      go_enter Tryz.func107, Tryz.ntmps107
      go_wp2
      go_ret
      exact ⟨rfl, rfl⟩
set_option maxRecDepth 100000 in
set_option maxHeartbeats 4000000 in
theorem refBuiltin_any (s : ByteArray) (w : World) : Calls Tryz.prog 42 #[.string s] w fun e w' => e = .returned (.int .i64 (builtinV s)) ∧ w = w' := by
  by_cases h1 : s ∈ B1
  · rw [bv_one h1]
    simp only [B1, List.mem_cons, List.not_mem_nil, or_false] at h1
    rcases h1 with rfl | rfl | rfl | rfl | rfl | rfl | rfl
    all_goals
      go_enter Tryz.func42, Tryz.ntmps42
      go_wp2
      go_ret
      exact ⟨rfl, rfl⟩
  · by_cases h2 : s ∈ B2
    · rw [bv_two h1 h2]
      simp only [B2, List.mem_cons, List.not_mem_nil, or_false] at h2
      clear h1
      rcases h2 with rfl | rfl | rfl
      all_goals
        go_enter Tryz.func42, Tryz.ntmps42
        go_wp2
        go_ret
        exact ⟨rfl, rfl⟩
    · rw [bv_no h1 h2]
      simp only [B1, B2, List.mem_cons, List.not_mem_nil, or_false, not_or] at h1 h2
      obtain ⟨a0, a1, a2, a3, a4, a5, a6⟩ := h1
      obtain ⟨c0, c1, c2⟩ := h2
      replace a0 := ne_list a0
      replace a1 := ne_list a1
      replace a2 := ne_list a2
      replace a3 := ne_list a3
      replace a4 := ne_list a4
      replace a5 := ne_list a5
      replace a6 := ne_list a6
      replace c0 := ne_list c0
      replace c1 := ne_list c1
      replace c2 := ne_list c2
      go_enter Tryz.func42, Tryz.ntmps42
      go_wp2
      go_ret
      exact ⟨rfl, rfl⟩

/-- How much nodes are. -/
def ndN (n : Nd) : Nat := 4 + n.kids.length + n.text.size
def fewN (l : List Nd) : Nat := (l.map ndN).sum
def fewB (l : List Nd) : Bool := decide (fewN l ≤ 20000)
theorem few_take (l : List Nd) (k : Nat) (hk : k < l.length) : fewN (l.take (k + 1)) = fewN (l.take k) + ndN l[k] := by
  unfold fewN
  rw [List.take_succ_eq_append_getElem hk, List.map_append, List.sum_append]
  simp
theorem few_mono (l : List Nd) (k : Nat) : fewN (l.take k) ≤ fewN l := by
  have h : l = l.take k ++ l.drop k := (List.take_append_drop k l).symm
  have : fewN l = fewN (l.take k) + fewN (l.drop k) := by
    conv => lhs; rw [h]
    unfold fewN
    rw [List.map_append, List.sum_append]
  omega
end TreeD
end Go.Proofs.YtmdkocegnbcgmaaGreatDoor
namespace Go.Proofs.YtmdkocegnbcgmaaGreatDoor
open Go.RowKit ObjM
namespace ScD
open TreeD (Nd)

/-- What is seen in a block: a name's variable. -/
abbrev Sees := List UInt8 → Option Nat
def noSees : Sees := fun _ => none
def Sees.put (f : Sees) (k : ByteArray) (v : Nat) : Sees := fun x => if x = k.data.toList then some v else f x
structure FSt where
  vars : List (Int × Int × Bool)
  uses : List Int
  funcs : List Int
  ups : List Int
  counts : List Int
  blocks : List Sees
  fn : Nat
  puts : Nat
section
variable (l : List Nd)
def addP (n : Nat) (st : FSt) : Option FSt :=
  match l[n]?, st.counts[st.fn]?, st.blocks.getLast? with
  | some x, some c, some f =>
    if 0 ≤ c ∧ c + 1 ≤ 200 ∧ n < st.uses.length ∧ st.vars.length < 1000 ∧ st.puts < 1000 ∧ st.blocks.length ≤ 2000 then
      some { st with counts := st.counts.set st.fn (c + 1), uses := st.uses.set n (st.vars.length : Int), blocks := st.blocks.dropLast ++ [f.put x.text st.vars.length], vars := st.vars ++ [((n : Int), (st.fn : Int), false)], puts := st.puts + 1 }
    else none
  | _, _, _ => none
def findP (k : ByteArray) : List Sees → Option Nat
  | [] => none
  | f :: fs => match findP k fs with
    | some v => some v
    | none => f k.data.toList
def useP (n : Nat) (st : FSt) : Option FSt :=
  match l[n]? with
  | some x => match findP x.text st.blocks with
    | some v => match st.vars[v]? with
      | some r => if n < st.uses.length ∧ st.blocks.length ≤ 2000 ∧ st.vars.length ≤ 1000 then some { st with uses := st.uses.set n (v : Int), vars := st.vars.set v (r.1, r.2.1, r.2.2 || r.2.1 != (st.fn : Int)) } else none
      | none => none
    | none => none
  | none => none
def popP (st : FSt) : FSt := { st with blocks := st.blocks.dropLast }
def openP (st : FSt) : FSt := { st with blocks := st.blocks ++ [noSees] }
def kidsP (V : Nat → FSt → Option FSt) : List Int → FSt → Option FSt
  | [], st => some st
  | k :: ks, st => if 0 ≤ k then (V k.toNat st).bind fun s => kidsP V ks s else none
def funP (V : Nat → FSt → Option FSt) (n : Nat) (st : FSt) : Option FSt :=
  match l[n]? with
  | some x => match x.kids with
    | [_, b] => if 0 ≤ b ∧ st.funcs.length < 1000 ∧ st.counts.length < 1000 ∧ st.ups.length < 1000 then
        (V b.toNat (openP { st with funcs := st.funcs ++ [(n : Int)], ups := st.ups ++ [(st.fn : Int)], counts := st.counts ++ [0], fn := st.funcs.length })).map fun s => { popP s with fn := st.fn }
      else none
    | _ => none
  | none => none
def stepV (V : Nat → FSt → Option FSt) (n : Nat) (st : FSt) : Option FSt :=
  match l[n]? with
  | none => none
  | some x =>
    if 1000 < st.blocks.length then none
    else if x.kind = 3 then (kidsP V x.kids (openP st)).map popP
    else if x.kind = 4 then match x.kids with
      | [_, b] => if 0 ≤ b then (V b.toNat st).bind fun s => addP l n s else none
      | _ => none
    else if x.kind = 5 then match x.kids with
      | [a] => if 0 ≤ a then (addP l n st).bind fun s => V a.toNat s else none
      | _ => none
    else if x.kind = 22 then funP l V n st
    else if x.kind = 9 ∨ x.kind = 11 ∨ x.kind = 6 then none
    else if x.kind = 17 then useP l n st
    else kidsP V x.kids st
def V : Nat → Nat → FSt → Option FSt
  | 0 => fun _ _ => none
  | m + 1 => stepV l (V m)
def startP : FSt := ⟨[], List.replicate l.length (-1), [-1], [-1], [0], [], 0, 0⟩
end
end ScD
end Go.Proofs.YtmdkocegnbcgmaaGreatDoor
