/- Any operator on any values. -/
import Derived.Test.YtajcglhmononnaaVal9
namespace Go.Proofs.Ytajcglhmononnaa
open Go.RowKit ObjM
namespace ValD
open NumM LabelM LabelD NumD

/-- An operator's answer with its label; why not. -/
def doA (op : Int) (a b : V) : V := (ansR op a b).2.1.with (a.l ||| b.l)
def doW (op : Int) (a b : V) : ByteArray := (ansR op a b).2.2
theorem ans_l (op : Int) (a b : V) : (ansR op a b).2.1.l = 0 := by
  rcases way op a b with ⟨h, hk, hk2, hd, e⟩ | ⟨h, hk, hk2, hd, e⟩ | ⟨h, hk, e⟩ | ⟨rfl, hk, hk2, e⟩ | ⟨rfl, hk, e⟩ | ⟨h, hk, hk2, e⟩ | ⟨h, hk, e⟩ | ⟨rfl, e⟩ | ⟨h, e⟩ <;> rw [e] <;> rfl
theorem ans_no (op : Int) (a b : V) (h : (ansR op a b).1 = false) : (ansR op a b).2.1 = zeroV := by
  rcases way op a b with ⟨_, hk, hk2, hd, e⟩ | ⟨_, hk, hk2, hd, e⟩ | ⟨_, hk, e⟩ | ⟨rfl, hk, hk2, e⟩ | ⟨rfl, hk, e⟩ | ⟨_, hk, hk2, e⟩ | ⟨_, hk, e⟩ | ⟨rfl, e⟩ | ⟨_, e⟩ <;> rw [e] at h ⊢ <;> first | rfl | cases h
theorem ans_yes (op : Int) (a b : V) (h : (ansR op a b).1 = true) : (ansR op a b).2.2 = emptyS := by
  rcases way op a b with ⟨_, hk, hk2, hd, e⟩ | ⟨_, hk, hk2, hd, e⟩ | ⟨_, hk, e⟩ | ⟨rfl, hk, hk2, e⟩ | ⟨rfl, hk, e⟩ | ⟨_, hk, hk2, e⟩ | ⟨_, hk, e⟩ | ⟨rfl, e⟩ | ⟨_, e⟩ <;> rw [e] at h ⊢ <;> first | rfl | cases h
theorem doA_l (op : Int) (a b : V) : (doA op a b).l = a.l ||| b.l := by
  show (ansR op a b).2.1.l ||| (a.l ||| b.l) = _
  rw [ans_l, Nat.zero_or]

theorem vdo_any (op : Int) (a b : V) (ha : a.l < M64) (hb : b.l < M64) (hs : a.s.size ≤ 1000) (hs2 : b.s.size ≤ 1000) (w : World) :
    Calls Try.prog 10 #[.int .i64 op, a.agg, b.agg] w fun e w' => e = .returned (.tuple #[(doA op a b).agg, .string (doW op a b)]) ∧ Below w.heap.size w w' := by
  have hA := fun W => answer_any op a b hs hs2 W
  unfold Answers at hA
  unfold doA doW
  cases hc : (ansR op a b).1
  · rw [hc] at hA
    have h := do_dies op a b ha hb (ansR op a b).2.2 hA w
    have hz : (zeroV.with (a.l ||| b.l)) = ⟨0, 0, ⟨#[]⟩, a.l ||| b.l⟩ := by simp [V.with, zeroV]
    rw [ans_no op a b hc, hz]
    exact h
  · rw [hc] at hA
    rw [ans_yes op a b hc]
    exact do_ok op a b (ansR op a b).2.1 ha hb (by rw [ans_l]; exact (by decide : (0 : Nat) < M64)) hA w
end ValD
end Go.Proofs.Ytajcglhmononnaa
