/- Reading and writing, on both sides. -/
import Derived.Test.YteohgacblilfmaaWorldRef
import Derived.Test.YteohgacblilfmaaWorldSame
import Derived.Test.YteohgacblilfmaaWorldSees
namespace Go.Proofs.Yteohgacblilfmaa
open Go.RowKit ObjM Shell Go.ChangeShapes Go.WideShapes
namespace WorldD
open LabelM LabelD TraceD

def refL (m : Nat → Nat) (a : Nat → Option Addr) (z : Nat → List Int) (q : Nat → Nat) (n : Nat → Nat) : List Ch :=
  [⟨m 0, .slice (a 0) (z 0).length (q 0), z 0, n 0⟩, ⟨m 1, .slice (a 1) (z 1).length (q 1), z 1, n 1⟩, ⟨m 2, .slice (a 2) (z 2).length (q 2), z 2, n 2⟩, ⟨m 3, .slice (a 3) (z 3).length (q 3), z 3, n 3⟩, ⟨m 4, .slice (a 4) (z 4).length (q 4), z 4, n 4⟩, ⟨m 5, .slice (a 5) (z 5).length (q 5), z 5, n 5⟩, ⟨m 6, .slice (a 6) (z 6).length (q 6), z 6, n 6⟩, ⟨m 7, .slice (a 7) (z 7).length (q 7), z 7, n 7⟩]
def upd (n : Nat → Nat) (k x : Nat) (j : Nat) : Nat := if j = k then x else n j
theorem refL_at (m : Nat → Nat) (a : Nat → Option Addr) (z : Nat → List Int) (q : Nat → Nat) (n : Nat → Nat) {k : Nat} (hk : k < 8) : (refL m a z q n)[k]? = some ⟨m k, .slice (a k) (z k).length (q k), z k, n k⟩ := by
  rcases lt8 hk with rfl | rfl | rfl | rfl | rfl | rfl | rfl | rfl <;> rfl
theorem refL_set (m : Nat → Nat) (a : Nat → Option Addr) (z : Nat → List Int) (q : Nat → Nat) (n : Nat → Nat) {k : Nat} (hk : k < 8) (x : Nat) : (refL m a z q n).set k ⟨m k, .slice (a k) (z k).length (q k), z k, x⟩ = refL m a z q (upd n k x) := by
  rcases lt8 hk with rfl | rfl | rfl | rfl | rfl | rfl | rfl | rfl <;> simp [refL, upd]
/-- The channels stand alike. -/
def Mt (l : List Ch) (m : Nat → Nat) (z : Nat → List Int) (n : Nat → Nat) : Prop := ∀ (j : Nat) (c : Ch), l[j]? = some c → c.m = m j ∧ c.xs = z j ∧ c.n = n j
theorem Mt.set {l : List Ch} {m : Nat → Nat} {z : Nat → List Int} {n : Nat → Nat} (h : Mt l m z n) {k : Nat} {c : Ch} (hc : l[k]? = some c) (x : Nat) : Mt (l.set k { c with n := x }) m z (upd n k x) := by
  intro j d hd
  have hlt := (List.getElem?_eq_some_iff.1 hc).1
  by_cases e : k = j
  · subst e
    rw [List.getElem?_set_self hlt] at hd
    simp at hd
    subst hd
    have := h k c hc
    exact ⟨this.1, this.2.1, by simp [upd]⟩
  · rw [List.getElem?_set_ne e] at hd
    have := h j d hd
    exact ⟨this.1, this.2.1, by rw [this.2.2]; simp [upd, Ne.symm e]⟩
/-- What reading answers, and how far is read then. -/
def readR (m : Nat) (xs : List Int) (n pc : Nat) : (Int × Int × Int × Int) × Nat :=
  if flowsB pc m = false then ((0, 0, 0, 40), n) else if n = xs.length then ((0, 0, m, 0), n) else ((2, xs.getD n 0, m, 0), n + 1)
theorem readC_eq (c : Ch) (pc : Nat) : readC c pc = ((readR c.m c.xs c.n pc).1, { c with n := (readR c.m c.xs c.n pc).2 }) := by
  unfold readC readR
  split
  · rfl
  · split <;> rfl
theorem IsW.base {w : World} {B B' G : Nat} {l : List Ch} {ev : List Ev} (h : IsW w B G l ev) (hb : B' ≤ B) : IsW w B' G l ev := by
  obtain ⟨sv, hG, hO, hB, hl, hok⟩ := h
  exact ⟨sv, hG, own_base hO hb, by omega, hl, fun c hc => ⟨(hok c hc).1, (hok c hc).2.1, (hok c hc).2.2.1, own_base (hok c hc).2.2.2 hb⟩⟩
end WorldD
end Go.Proofs.Yteohgacblilfmaa
