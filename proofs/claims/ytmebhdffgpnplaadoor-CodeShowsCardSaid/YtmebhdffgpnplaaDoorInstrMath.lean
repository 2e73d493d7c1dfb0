/- What the instructions' numbers, words and texts are: plain functions on integers and lists of bytes. Nothing of the program is named. -/
import Derived.RowKit
import Derived.WalkKit
namespace Go.Proofs.YtmebhdffgpnplaaDoor
open Go.RowKit
namespace InstrM

/-- The names and the fields of the numbers from 0 to 62. -/
def rowL : List (List UInt8 × List UInt8) := [
  ([], []),
  ([99, 111, 110, 115, 116], [65, 68]),
  ([109, 111, 118, 101], [65, 66]),
  ([105, 110, 105, 116], [65, 66]),
  ([115, 101, 116], [65, 66]),
  ([99, 101, 108, 108], [65]),
  ([103, 101, 116, 99], [65, 66]),
  ([115, 101, 116, 99], [65, 66]),
  ([103, 101, 116, 117], [65, 66]),
  ([115, 101, 116, 117], [65, 66]),
  ([], []),
  ([97, 100, 100], [65, 66, 67]),
  ([115, 117, 98], [65, 66, 67]),
  ([109, 117, 108], [65, 66, 67]),
  ([100, 105, 118], [65, 66, 67]),
  ([109, 111, 100], [65, 66, 67]),
  ([108, 116], [65, 66, 67]),
  ([108, 101], [65, 66, 67]),
  ([101, 113], [65, 66, 67]),
  ([99, 97, 116], [65, 66, 67]),
  ([], []),
  ([97, 100, 100, 105], [65, 66, 67]),
  ([115, 117, 98, 105], [65, 66, 67]),
  ([109, 117, 108, 105], [65, 66, 67]),
  ([100, 105, 118, 105], [65, 66, 67]),
  ([109, 111, 100, 105], [65, 66, 67]),
  ([108, 116, 105], [65, 66, 67]),
  ([108, 101, 105], [65, 66, 67]),
  ([], []),
  ([], []),
  ([110, 101, 103], [65, 66]),
  ([110, 111, 116], [65, 66]),
  ([108, 101, 110], [65, 66]),
  ([], []),
  ([106, 117, 109, 112], [68]),
  ([98, 114, 102], [65, 68]),
  ([98, 114, 116], [65, 68]),
  ([106, 111, 105, 110], [68]),
  ([], []),
  ([], []),
  ([99, 108, 111, 115, 117, 114, 101], [65, 68]),
  ([99, 97, 108, 108], [65, 66, 67]),
  ([114, 101, 116, 117, 114, 110], [65]),
  ([116, 97, 98, 108, 101], [65]),
  ([115, 116, 97, 109, 112], [65, 68]),
  ([103, 101, 116, 102], [65, 66, 67]),
  ([103, 101, 116, 115], [65, 66, 67]),
  ([115, 101, 116, 102], [65, 66, 67]),
  ([], []),
  ([103, 101, 116, 105], [65, 66, 67]),
  ([115, 101, 116, 105], [65, 66, 67]),
  ([114, 101, 97, 100], [65, 68]),
  ([119, 114, 105, 116, 101], [65, 68]),
  ([116, 121, 112, 101], [65, 66]),
  ([107, 101, 121], [65, 66, 67]),
  ([112, 99, 97, 108, 108], [65]),
  ([101, 114, 114, 111, 114], [65]),
  ([99, 114, 101, 97, 116, 101], [65]),
  ([114, 101, 115, 117, 109, 101], [65, 66]),
  ([121, 105, 101, 108, 100], [65]),
  ([115, 116, 97, 116, 117, 115], [65, 66]),
  ([99, 97, 115, 116], [65, 68]),
  ([98, 111, 117, 110, 100], [65, 68])]
def nameL (k : Nat) : List UInt8 := (rowL.getD k ([], [])).1
def formL (k : Nat) : List UInt8 := (rowL.getD k ([], [])).2
def nameOf (op : Int) : List UInt8 := if 0 ≤ op then nameL op.toNat else []
def formOf (op : Int) : List UInt8 := if 0 ≤ op then formL op.toNat else []
theorem nameL_big {k : Nat} (h : 63 ≤ k) : nameL k = [] := by
  unfold nameL
  rw [List.getD_eq_getElem?_getD, List.getElem?_eq_none (by exact h)]
  rfl
theorem formL_big {k : Nat} (h : 63 ≤ k) : formL k = [] := by
  unfold formL
  rw [List.getD_eq_getElem?_getD, List.getElem?_eq_none (by exact h)]
  rfl
/-- What stands in a field. -/
def fld (a b c d l : Int) : Int := if l = 65 then a else if l = 66 then b else if l = 67 then c else d
def fitsB (l n : Int) : Bool := if l = 68 then decide (-32768 ≤ n) && decide (n ≤ 32767) else decide (0 ≤ n) && decide (n ≤ 255)
def shiftV (l : Int) : Int := if l = 65 then 8 else if l = 67 then 24 else 16
theorem shiftV_ok (l : Int) : 8 ≤ shiftV l ∧ shiftV l ≤ 24 := by unfold shiftV; (repeat' split) <;> omega
/-- A word with a number more, as package instr reckons it. -/
def orW (word n sh : Int) : Int := bits .or .u32 word (n % 4294967296 * 2 ^ sh.toNat % 4294967296)
/-- What Encode comes to behind some letters: the word and the error. -/
def encF (a b c d : Int) : List UInt8 → Int → Int → Int → Int → Int → Int × Int
  | [], wd, ka, kb, kc, kd => if ka = a ∧ kb = b ∧ kc = c ∧ kd = d then (wd, 0) else (0, 1)
  | l :: r, wd, ka, kb, kc, kd =>
    if fitsB l.toNat (fld a b c d l.toNat) = true then
      encF a b c d r (orW wd (fld a b c d l.toNat) (shiftV l.toNat)) (if (l.toNat : Int) = 65 then fld a b c d l.toNat else ka) (if (l.toNat : Int) = 66 then fld a b c d l.toNat else kb)
        (if (l.toNat : Int) = 67 then fld a b c d l.toNat else kc) (if (l.toNat : Int) = 65 ∨ (l.toNat : Int) = 66 ∨ (l.toNat : Int) = 67 then kd else fld a b c d l.toNat)
    else (0, 1)
def encV (op a b c d : Int) : Int × Int := if formOf op = [] then (0, 1) else encF a b c d (formOf op) (op % 4294967296) 0 0 0 0
theorem letters (k : Nat) : ∀ l ∈ formL k, 65 ≤ l.toNat ∧ l.toNat ≤ 68 := by
  by_cases h : k < 63
  · exact (show ∀ k < 63, ∀ l ∈ formL k, 65 ≤ l.toNat ∧ l.toNat ≤ 68 by decide +kernel) k h
  · rw [formL_big (by omega)]
    intro l hl
    cases hl
theorem letters_of (op : Int) : ∀ l ∈ formOf op, 65 ≤ l.toNat ∧ l.toNat ≤ 68 := by
  unfold formOf
  split
  · exact letters _
  · intro l hl
    cases hl
theorem drop_cons {l : List UInt8} {k : Nat} (h : k < l.length) : l.drop k = l[k] :: l.drop (k + 1) := List.drop_eq_getElem_cons h
theorem bits_u32 (x y : Int) : 0 ≤ bits .or .u32 x y ∧ bits .or .u32 x y ≤ 4294967295 := by
  show 0 ≤ IntKind.u32.wrap _ ∧ IntKind.u32.wrap _ ≤ 4294967295
  rw [IntKind.wrap_u32]
  omega
end InstrM
end Go.Proofs.YtmebhdffgpnplaaDoor
