/- Whether nodes are alike. -/
import Derived.Test.YtmdkocegnbcgmaaGreatDoorZ6
import Derived.Test.YtmdkocegnbcgmaaGreatDoorShelf
namespace Go.Proofs.YtmdkocegnbcgmaaGreatDoor
open Go.RowKit ObjM
namespace TreeD

def ndEq (a b : Nd) : Bool := (a.kind == b.kind) && (a.text.toList == b.text.toList) && (a.kids == b.kids)
def sameV : List Nd → List Nd → Bool
  | [], [] => true
  | x :: a, y :: b => ndEq x y && sameV a b
  | _, _ => false
theorem sameV_len : ∀ {a b : List Nd}, a.length ≠ b.length → sameV a b = false
  | [], [], h => absurd rfl h
  | [], _ :: _, _ => rfl
  | _ :: _, [], _ => rfl
  | x :: a, y :: b, h => by
    show (ndEq x y && sameV a b) = false
    rw [sameV_len (a := a) (b := b) (by simpa using h)]
    simp
theorem sameV_self : ∀ (a : List Nd), sameV a a = true
  | [] => rfl
  | x :: a => by
    show (ndEq x x && sameV a a) = true
    rw [sameV_self a]
    simp [ndEq]
theorem sameV_drop {a b : List Nd} {k : Nat} (ha : k < a.length) (hb : k < b.length) : sameV (a.drop k) (b.drop k) = (ndEq a[k] b[k] && sameV (a.drop (k + 1)) (b.drop (k + 1))) := by
  rw [List.drop_eq_getElem_cons ha, List.drop_eq_getElem_cons hb]
  rfl
def NdVal (n : Nd) (kv : Value) : Value := .agg #[.int .i64 n.kind, .string n.text, kv, .int .i64 n.pos]
end TreeD
end Go.Proofs.YtmdkocegnbcgmaaGreatDoor
namespace Go.Proofs.YtmdkocegnbcgmaaGreatDoor
open Go.RowKit ObjM
namespace TreeD

theorem below_drewN {b : Nat} {w w' : World} (h : Below b w w') (n : Nat) : Below b w (w'.drewN n) := ⟨h.os, h.tape, h.output, h.size, fun k hk => h.block k hk⟩
theorem take_eq_all {a b : List Int} (hl : a.length = b.length) (h : a.take a.length = b.take a.length) : a = b := by
  rw [List.take_length, hl, List.take_length] at h
  exact h
theorem take_next {a b : List Int} {j : Nat} (ha : j < a.length) (hb : j < b.length) (h : a.take j = b.take j) (he : a[j] = b[j]) : a.take (j + 1) = b.take (j + 1) := by
  rw [List.take_succ_eq_append_getElem ha, List.take_succ_eq_append_getElem hb, h, he]
theorem ne_at {a b : List Int} {j : Nat} (ha : j < a.length) (hb : j < b.length) (he : a[j] ≠ b[j]) : (a == b) = false := by
  simp only [beq_eq_false_iff_ne, ne_eq]
  intro e
  subst e
  exact he rfl
end TreeD
end Go.Proofs.YtmdkocegnbcgmaaGreatDoor
