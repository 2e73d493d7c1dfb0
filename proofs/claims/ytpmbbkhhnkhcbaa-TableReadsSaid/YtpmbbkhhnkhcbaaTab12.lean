/- What Get answers for any table and any key. -/
import Derived.Test.YtpmbbkhhnkhcbaaTab11
namespace Go.Proofs.Ytpmbbkhhnkhcbaa
open Go.RowKit ObjM Go.Maps
namespace TabD
open LabelM LabelD ValD

def valOf (fs : List Fd) (key : V) : V := if keyB key = true then (match placeOf fs key with | some i => (match fs[i]? with | some f => f.2 | none => ⟨0, 0, ⟨#[]⟩, 0⟩) | none => ⟨0, 0, ⟨#[]⟩, 0⟩) else ⟨0, 0, ⟨#[]⟩, 0⟩
theorem get_any (B T lab : Nat) (fs : List Fd) (fv sv nm : Value) (pm : Option Nat) (key : V) (hv : VOk key) (w : World) (h : IsT w B T lab fs fv pm sv nm) :
    Calls Try.prog 14 #[.pointer (some ⟨T, 0, none⟩), key.agg] w (GetIs w ((valOf fs key).with (key.l ||| lab))) := by
  have hl : ∀ W, Below w.heap.size w W → Calls Try.prog 22 #[.pointer (some ⟨T, 0, none⟩)] W fun e w' => e = .returned (.int .u64 (lab : Int)) ∧ W = w' := fun W hb => tlabel_any T _ (lab : Int) W (h.below hb).1
  have z : (⟨0, 0, ⟨#[]⟩, 0⟩ : V).with (key.l ||| lab) = ⟨0, 0, ⟨#[]⟩, key.l ||| lab⟩ := by simp [V.with]
  cases hk : keyB key with
  | false =>
    have e : valOf fs key = ⟨0, 0, ⟨#[]⟩, 0⟩ := by unfold valOf; rw [hk]; rfl
    rw [e, z]
    exact get_none _ 0 lab h.2.2.2.2.1 key hv.2.2.2 w (fun W _ => find_nokey _ key hk W) hl
  | true =>
    cases hp : placeOf fs key with
    | none =>
      have e : valOf fs key = ⟨0, 0, ⟨#[]⟩, 0⟩ := by unfold valOf; rw [hk, hp]; rfl
      have hb : placeB fs key = false := by unfold placeB; rw [hp]; rfl
      rw [e, z]
      exact get_none _ (placeI fs key) lab h.2.2.2.2.1 key hv.2.2.2 w (fun W hW => by have := find_key B T lab fs fv sv nm pm key hv hk W (h.below hW); rw [hb] at this; exact this) hl
    | some i =>
      obtain ⟨f, hf, -⟩ := placeOf_some hp
      have e : valOf fs key = f.2 := by unfold valOf; rw [hk, hp]; simp [hf]
      rw [e]
      exact get_found B T lab fs fv sv nm pm key hv hk w h i hp f hf
end TabD
end Go.Proofs.Ytpmbbkhhnkhcbaa
