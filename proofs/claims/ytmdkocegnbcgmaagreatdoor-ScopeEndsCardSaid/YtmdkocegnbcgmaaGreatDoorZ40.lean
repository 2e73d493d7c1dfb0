/- Events in a slice. -/
import Derived.Test.YtmdkocegnbcgmaaGreatDoorZ4
import Derived.Test.YtmdkocegnbcgmaaGreatDoorZ2
import Derived.Test.YtmdkocegnbcgmaaGreatDoorZ3
import Derived.Test.YtmdkocegnbcgmaaGreatDoorZ1
import Derived.Test.YtmdkocegnbcgmaaGreatDoorZ39
import Derived.Deep.QuietTactic
namespace Go.Proofs.YtmdkocegnbcgmaaGreatDoor
open Go.RowKit Go.WideShapes Go.ChangeShapes Go.Deep ObjM
namespace TraceD
open LabelM LabelD

/-- An event. -/
structure Ev where
  ch : Int
  k : Int
  n : Int
  s : ByteArray
def Ev.cells (e : Ev) : List Value := [.int .i64 e.ch, .int .i64 e.k, .int .i64 e.n, .string e.s]
def Ev.agg (e : Ev) : Value := .agg #[.int .i64 e.ch, .int .i64 e.k, .int .i64 e.n, .string e.s]
def Ev.eqB (a b : Ev) : Bool := (a.ch == b.ch) && (a.k == b.k) && (a.n == b.n) && (a.s.toList == b.s.toList)
def EvCells (W : World) (b o : Nat) (i : Nat) (a : Ev) : Prop :=
  W.cell? ⟨b, o + i * 4, none⟩ = some (.int .i64 a.ch) ∧ W.cell? ⟨b, o + i * 4 + 1, none⟩ = some (.int .i64 a.k) ∧ W.cell? ⟨b, o + i * 4 + 2, none⟩ = some (.int .i64 a.n) ∧ W.cell? ⟨b, o + i * 4 + 3, none⟩ = some (.string a.s)
/-- The slice v holds the events l. -/
def EvsAt (W : World) (v : Value) (l : List Ev) : Prop :=
  (v = .slice none 0 0 ∧ l = []) ∨ ∃ b o cap, v = .slice (some ⟨b, o, none⟩) l.length cap ∧ l.length ≤ cap ∧ cap ≤ 9223372036854775807 ∧ b < W.heap.size ∧ ∀ (i : Nat) e, l[i]? = some e → EvCells W b o i e
theorem EvsAt.len {W : World} {v : Value} {l : List Ev} (h : EvsAt W v l) : l.length ≤ 9223372036854775807 := by
  rcases h with ⟨-, rfl⟩ | ⟨_, _, _, _, h1, h2, _⟩
  · simp
  · omega
theorem EvsAt.below {W W' : World} {v : Value} {l : List Ev} (h : EvsAt W v l) (hb : Below W.heap.size W W') : EvsAt W' v l := by
  rcases h with h | ⟨b, o, cap, h1, h2, h3, h4, h5⟩
  · exact .inl h
  · refine .inr ⟨b, o, cap, h1, h2, h3, Nat.lt_of_lt_of_le h4 hb.size, fun i a ha => ?_⟩
    obtain ⟨c0, c1, c2, c3⟩ := h5 i a ha
    exact ⟨(hb.cell (p := ⟨b, _, none⟩) h4).trans c0, (hb.cell (p := ⟨b, _, none⟩) h4).trans c1, (hb.cell (p := ⟨b, _, none⟩) h4).trans c2, (hb.cell (p := ⟨b, _, none⟩) h4).trans c3⟩
theorem EvsAt.shape {W : World} {v : Value} {l : List Ev} (h : EvsAt W v l) : ∃ av cw, v = .slice av l.length cw := by
  rcases h with ⟨rfl, rfl⟩ | ⟨b, o, cap, rfl, _⟩
  · exact ⟨none, 0, rfl⟩
  · exact ⟨_, _, rfl⟩
theorem EvsAt.at {W : World} {av : Option Addr} {cw : Nat} {l : List Ev} (h : EvsAt W (.slice av l.length cw) l) (k : Nat) (hk : k < l.length) : ∃ b o, av = some ⟨b, o, none⟩ ∧ b < W.heap.size ∧ EvCells W b o k l[k] := by
  rcases h with ⟨_, rfl⟩ | ⟨b, o, cap, h, _, _, hb, hc⟩
  · simp at hk
  · injection h with h4 h5 h6
    exact ⟨b, o, h4, hb, hc k _ (List.getElem?_eq_getElem hk)⟩
theorem addr_add (b o : Nat) (n : Nat) : (⟨b, o, none⟩ : Addr).add n = ⟨b, o + n, none⟩ := by
  unfold Addr.add
  split
  · rename_i h; subst h; rfl
  · rfl
theorem list_of {α : Type} {R : Nat → α → Prop} : ∀ (n : Nat), (∀ i, i < n → ∃ a, R i a) → ∃ l : List α, l.length = n ∧ ∀ (i : Nat) a, l[i]? = some a → R i a
  | 0, _ => ⟨[], rfl, fun i a h => by simp at h⟩
  | n + 1, h => by
    obtain ⟨l, hl, hR⟩ := list_of n fun i hi => h i (by omega)
    obtain ⟨a, ha⟩ := h n (by omega)
    refine ⟨l ++ [a], by simp [hl], fun i x hx => ?_⟩
    rcases Nat.lt_or_ge i l.length with hi | hi
    · rw [List.getElem?_append_left hi] at hx
      exact hR i x hx
    · rw [List.getElem?_append_right hi] at hx
      have hi2 : i - l.length = 0 := by
        have := (List.getElem?_eq_some_iff.1 hx).1
        simp at this
        omega
      rw [hi2] at hx
      simp at hx
      have : i = n := by omega
      rw [this, ← hx]
      exact ha
section
variable {H : Type} {enc : TypeId × Value → H}
end
end TraceD
end Go.Proofs.YtmdkocegnbcgmaaGreatDoor
namespace Go.Proofs.YtmdkocegnbcgmaaGreatDoor
open Go.RowKit ObjM
namespace TraceD
open LabelM LabelD

theorem below_drewN {b : Nat} {w w' : World} (h : Below b w w') (n : Nat) : Below b w (w'.drewN n) := ⟨h.os, h.tape, h.output, h.size, fun k hk => h.block k hk⟩
/-- Whether m begins with l. -/
def beginsB : List Ev → List Ev → Bool
  | [], _ => true
  | _ :: _, [] => false
  | a :: r, b :: s => a.eqB b && beginsB r s
theorem beginsB_long : ∀ (l m : List Ev), m.length < l.length → beginsB l m = false
  | [], _, h => by simp at h
  | _ :: _, [], _ => rfl
  | a :: r, b :: s, h => by
    have := beginsB_long r s (by simpa using h)
    simp [beginsB, this]
theorem beginsB_drop {l m : List Ev} {k : Nat} (h : k < l.length) (h2 : k < m.length) : beginsB (l.drop k) (m.drop k) = (l[k].eqB m[k] && beginsB (l.drop (k + 1)) (m.drop (k + 1))) := by
  rw [List.drop_eq_getElem_cons h, List.drop_eq_getElem_cons h2]
  rfl
theorem Ev.eqB_refl (a : Ev) : a.eqB a = true := by simp [Ev.eqB]
theorem beginsB_append : ∀ (l m : List Ev), beginsB l (l ++ m) = true
  | [], _ => rfl
  | a :: r, m => by simp [beginsB, Ev.eqB_refl, beginsB_append r m]

end TraceD
end Go.Proofs.YtmdkocegnbcgmaaGreatDoor
