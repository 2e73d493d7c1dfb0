/- A region that draws its order and dies, in a function that defers: what the region does not write is as it was. -/
import Derived.Deep.RegionHeld3
namespace Go.Proofs.Ytajcglhmononnaa
namespace DiesD
variable {P : Program} {ops : Array Oper}

theorem wpOp_frame {Q0 Q : Exit → Act → World → Prop} {F : Array Value → Prop} (hF : ∀ (i : Nat) (o : Oper), ops[i]? = some o → ∀ (b : Act) v, F b.tmps → F (b.put o.dst v).tmps)
    (hQ : ∀ e a w, Q0 e a w → (e = .outgrown ∨ F a.tmps) → Q e a w) {i : Nat} {K K' : Act → World → Prop} {a : Act} {w : World} (hK : ∀ a w, F a.tmps → K a w → K' a w)
    (h0 : F a.tmps) (h : wpOp P ops Q0 i K a w) : wpOp P ops Q i K' a w := by
  unfold wpOp at *
  cases ho : ops[i]? with
  | none => simp only [ho] at h ⊢; exact hK _ _ h0 h
  | some o =>
    simp only [ho] at h ⊢
    split
    · rename_i hw
      simp only [hw, if_true] at h
      rcases h with h | ⟨ha, x, y, hl⟩
      · refine .inl ?_
        unfold Oper.wp at *
        generalize (execOp a.eval o).run P w = r at *
        cases r with
        | ok n w' =>
          cases n <;> simp only [Oper.upon] at h ⊢
          case value u => exact hK _ _ (hF i o ho a u h0) h
          case skip => exact hK _ _ (hF i o ho a _ h0) h
          case defer d => exact hK _ _ (hF i o ho { a with defers := d :: a.defers } _ h0) h
          case enter f args =>
            refine Calls.mono h fun e w'' he => ?_
            cases e with
            | returned u => exact hK _ _ (hF i o ho a u h0) he
            | panicked c => exact hQ _ _ _ he (.inr h0)
            | outgrown => obtain ⟨x, y, hl⟩ := he; exact ⟨x, y, hQ _ _ _ hl (.inl rfl)⟩
          case row row args => exact Rows.mono h fun u w'' he => hK _ _ (hF i o ho a u h0) he
        | halt x w' =>
          cases x <;> simp only [Oper.upon] at h ⊢
          case panic u => exact hQ _ _ _ h (.inr h0)
      · exact .inr ⟨ha, x, y, hQ _ _ _ hl (.inl rfl)⟩
    · rename_i hw
      simp only [hw] at h
      exact hK _ _ (hF i o ho a _ h0) h

theorem wpAny_frame {md : Region.Mode} {Q0 Q : Exit → Act → World → Prop} {F : Array Value → Prop} (hF : ∀ (i : Nat) (o : Oper), ops[i]? = some o → ∀ (b : Act) v, F b.tmps → F (b.put o.dst v).tmps)
    (hQ : ∀ e a w, Q0 e a w → (e = .outgrown ∨ F a.tmps) → Q e a w) : ∀ (fuel : Nat) (listed : Array Bool) (a : Act) (w : World), F a.tmps → wpAny P md ops Q0 fuel listed a w → wpAny P md ops Q fuel listed a w
  | 0, _, _, _, h0, h => ⟨h.1, hQ _ _ _ h.2 (.inr h0)⟩
  | fuel + 1, _, _, _, h0, h => ⟨fun hr => hQ _ _ _ (h.1 hr) (.inr h0), fun i hi => wpOp_frame hF hQ (fun a w hf hk => wpAny_frame hF hQ fuel _ a w hf hk) h0 (h.2 i hi)⟩

/-- Of a panic alone. -/
def Dies (R : List PanicEntry → Act → World → Prop) : Exit → Act → World → Prop
  | .panic c, a, w => R c a w
  | _, _, _ => False

theorem wp_region_dies {id : Nat} {Q : Exit → Act → World → Prop} {a : Act} {w : World} (hm : P.follows .mixedOrders = true) (F : Array Value → Prop)
    (hF : ∀ (i : Nat) (o : Oper), ops[i]? = some o → ∀ (b : Act) v, F b.tmps → F (b.put o.dst v).tmps) (h0 : F a.tmps) (S : World → Prop) (R : List PanicEntry → Act → World → Prop)
    (hQ : ∀ c a w, R c a w → F a.tmps → Q (.panic c) a w)
    (h : wpAnyH P .any ops (Dies R) S ops.size (Array.replicate ops.size false) a w.drew) : (Code.region id ops true).wp P Q a w :=
  wp_region_any hm (wpAny_frame hF (fun e a w h hf => by
    cases e with
    | panic c => exact hQ c a w h (by simpa using hf)
    | _ => exact h.elim) _ _ _ _ h0 (wpAny_of_held _ _ _ _ h))
/-- What a list of operations writes: no slot of those in 'ks'. -/
theorem frame_of {ks : List Nat} (hk : ∀ o ∈ ops.toList, ∀ d, o.dst = some d → d ∉ ks) (t0 : Array Value) :
    ∀ (i : Nat) (o : Oper), ops[i]? = some o → ∀ (b : Act) v, (∀ k ∈ ks, b.tmps[k]? = t0[k]?) → (∀ k ∈ ks, (b.put o.dst v).tmps[k]? = t0[k]?) := by
  intro i o hi b v h k hkk
  have ho : o ∈ ops.toList := by
    have := Array.mem_of_getElem? hi
    simpa using this
  cases hd : o.dst with
  | none => simpa [Act.put] using h k hkk
  | some d =>
    have hne : d ≠ k := fun e => hk o ho d hd (e ▸ hkk)
    have : (b.tmps.setIfInBounds d v)[k]? = b.tmps[k]? := by simp [hne]
    simpa [Act.put, this] using h k hkk
theorem wp_region_dies2 {id : Nat} {Q : Exit → Act → World → Prop} {a : Act} {w : World} (hm : P.follows .mixedOrders = true) (ks : List Nat)
    (hk : ∀ o ∈ ops.toList, ∀ d, o.dst = some d → d ∉ ks) (S : World → Prop) (R : List PanicEntry → World → Prop) (hS : S w.drew)
    (hQ : ∀ c (b : Act) w, R c w → b.defers = a.defers → (∀ k ∈ ks, b.tmps[k]? = a.tmps[k]?) → Q (.panic c) b w)
    (h : S w.drew → wpAnyH P .any ops (Dies fun c b w => b.defers = a.defers ∧ R c w) S ops.size (Array.replicate ops.size false) a w.drew) : (Code.region id ops true).wp P Q a w :=
  wp_region_dies hm (fun t => ∀ k ∈ ks, t[k]? = a.tmps[k]?) (frame_of hk _) (fun _ _ => rfl) S _ (fun c b w h hf => hQ c b w h.2 h.1 hf) (h hS)
end DiesD
end Go.Proofs.Ytajcglhmononnaa
