/- Whether events begin with others: both sides; the law's own tests. -/
import Derived.Test.YteohgacblilfmaaTrace
import Derived.Deep.QuietTactic
namespace Go.Proofs.Yteohgacblilfmaa
open Go.RowKit ObjM
namespace TraceD
open LabelM LabelD

theorem eqIn (W : World) (x0 x1 x2 y0 y1 y2 : Int) (x3 y3 : ByteArray) :
    Sem.run Try.prog (Op.equalIn 10000 65 (.agg #[.int .i64 x0, .int .i64 x1, .int .i64 x2, .string x3]) (.agg #[.int .i64 y0, .int .i64 y1, .int .i64 y2, .string y3])) W = .ok (Ev.eqB ⟨x0, x1, x2, x3⟩ ⟨y0, y1, y2, y3⟩) W := by
  simp [go_sem, Ev.eqB]
  by_cases h0 : x0 = y0
  · by_cases h1 : x1 = y1
    · by_cases h2 : x2 = y2
      · by_cases h3 : x3.toList = y3.toList <;> simp [h0, h1, h2, h3]
      · simp [h0, h1, h2]
    · simp [h0, h1]
  · simp [h0]
theorem neqIn (W : World) (a b : Ev) (c : Bool) (h : a.eqB b = c) : Sem.run Try.prog (binOp BinOp.neq 65 a.agg b.agg) W = .ok (.bool (!c)) W := by
  subst h
  obtain ⟨x0, x1, x2, x3⟩ := a
  obtain ⟨y0, y1, y2, y3⟩ := b
  simp only [Ev.agg, go_sem, eqIn, Result.andThen]
theorem below_drewN {b : Nat} {w w' : World} (h : Below b w w') (n : Nat) : Below b w (w'.drewN n) := ⟨h.os, h.tape, h.output, h.size, fun k hk => h.block k hk⟩
/-- Whether m begins with l. -/
def beginsB : List Ev → List Ev → Bool
  | [], _ => true
  | _ :: _, [] => false
  | a :: r, b :: s => a.eqB b && beginsB r s
theorem beginsB_long : ∀ (l m : List Ev), m.length < l.length → beginsB l m = false
  | [], _, h => by simp at h
  | _ :: _, [], _ => rfl
  | a :: r, b :: s, h => by
    have := beginsB_long r s (by simpa using h)
    simp [beginsB, this]
theorem beginsB_drop {l m : List Ev} {k : Nat} (h : k < l.length) (h2 : k < m.length) : beginsB (l.drop k) (m.drop k) = (l[k].eqB m[k] && beginsB (l.drop (k + 1)) (m.drop (k + 1))) := by
  rw [List.drop_eq_getElem_cons h, List.drop_eq_getElem_cons h2]
  rfl
theorem Ev.eqB_refl (a : Ev) : a.eqB a = true := by simp [Ev.eqB]
theorem beginsB_append : ∀ (l m : List Ev), beginsB l (l ++ m) = true
  | [], _ => rfl
  | a :: r, m => by simp [beginsB, Ev.eqB_refl, beginsB_append r m]

end TraceD
end Go.Proofs.Yteohgacblilfmaa
