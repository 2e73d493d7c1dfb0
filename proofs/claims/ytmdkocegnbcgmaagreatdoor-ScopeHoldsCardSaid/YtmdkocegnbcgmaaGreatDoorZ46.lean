/- A package-level variable of plain data (integers, bools, texts, structs and arrays of these) that a row lists: what each of its cells holds. Nothing of the program is named. -/
import Derived.Test.YtmdkocegnbcgmaaGreatDoorProg
import Derived.WalkKit
import Derived.Lib.LaidTab
import Derived.Stop.LaidErr
import Derived.Stop.Joined
namespace Go.Proofs.YtmdkocegnbcgmaaGreatDoor
open Go.RowKit Go.ChangeShapes
namespace Tables

/-- What stands at cell i of a value of type t that reads as d. -/
def locate {H : Type} (P : Program) : Nat → TypeId → DataW H → Nat → Option Value
  | 0, _, _, _ => none
  | fuel + 1, t, d, i =>
    match P.underlying t, d with
    | some .bool, .lit (.bool b) => if i = 0 then some (.bool b) else none
    | some (.int _), .lit (.int k n) => if i = 0 then some (.int k n) else none
    | some .string, .lit (.string bs) => if i = 0 then some (.string ⟨bs.toArray⟩) else none
    | some (.struct fs), .agg ds => (fs.toList.zip ds).findSome? fun x => if x.1.offset ≤ i ∧ i < x.1.offset + P.cellsOf x.1.type then locate P fuel x.1.type x.2 (i - x.1.offset) else none
    | some (.array _ e), .agg ds => if P.cellsOf e = 0 then none else (ds[i / P.cellsOf e]?).bind fun x => locate P fuel e x (i % P.cellsOf e)
    | _, _ => none

section
variable {H : Type} {enc : TypeId × Value → H} {P : Program} {w : World} {base : Nat} {sp : Nat → Bool} {held : Bool}
theorem take_at {cs : List Value} {o n i : Nat} {v : Value} (h : ((cs.drop o).take n)[i]? = some v) : cs[o + i]? = some v := by
  rw [List.getElem?_take] at h
  split at h
  · rwa [List.getElem?_drop] at h
  · cases h
theorem zip_some {α β : Type} {l : List α} {r : List β} {x : α × β} (h : x ∈ l.zip r) : ∃ j : Nat, l[j]? = some x.1 ∧ r[j]? = some x.2 := by
  obtain ⟨j, hj, e⟩ := List.mem_iff_getElem.1 h
  rw [List.length_zip] at hj
  refine ⟨j, ?_, ?_⟩
  · rw [← e]
    simp only [List.getElem_zip]
    exact List.getElem?_eq_getElem (by omega)
  · rw [← e]
    simp only [List.getElem_zip]
    exact List.getElem?_eq_getElem (by omega)
theorem locate_at : ∀ (fuel fuel' : Nat) (t : TypeId) (cs : List Value) (d : DataW H) (p : List MemPlace) (i : Nat) (v : Value),
    DataW.trod enc P w base sp held fuel' t cs = some (d, p) → locate P fuel t d i = some v → cs[i]? = some v
  | 0, _, _, _, _, _, _, _, _, h => by cases h
  | _ + 1, 0, _, _, _, _, _, _, h, _ => by cases h
  | fuel + 1, fuel' + 1, t, cs, d, p, i, v, h, hl => by
    unfold locate at hl
    split at hl
    case h_1 b ht =>
      split at hl
      case isFalse => cases hl
      case isTrue hi =>
      subst hi
      injection hl with hl
      subst hl
      unfold DataW.trod at h
      rw [ht] at h
      match cs, h with
      | [.bool _], h => simp at h; simp [h.1]
    case h_2 k0 k n ht =>
      split at hl
      case isFalse => cases hl
      case isTrue hi =>
      subst hi
      injection hl with hl
      subst hl
      unfold DataW.trod at h
      rw [ht] at h
      match cs, h with
      | [.int k' n'], h =>
        simp only at h
        split at h
        · rename_i hk
          simp at h
          simp [hk.1, h.1.1, h.1.2]
        · cases h
    case h_3 bs ht =>
      split at hl
      case isFalse => cases hl
      case isTrue hi =>
      subst hi
      injection hl with hl
      subst hl
      unfold DataW.trod at h
      rw [ht] at h
      match cs, h with
      | [.string s], h =>
        simp only at h
        split at h
        · simp at h
          obtain ⟨⟨l⟩⟩ := s
          simp at h
          simp [h.1]
        · cases h
    case h_4 fs ds ht =>
      obtain ⟨x, hx, hv⟩ := List.exists_of_findSome?_eq_some hl
      obtain ⟨j, hj1, hj2⟩ := zip_some hx
      split at hv
      case isFalse => cases hv
      case isTrue hi =>
      unfold DataW.trod at h
      rw [ht] at h
      simp only at h
      split at h
      case isFalse => cases h
      case isTrue hlen =>
      obtain ⟨ys, hys, e⟩ := Option.map_eq_some_iff.1 h
      simp only [Prod.mk.injEq, DataW.agg.injEq] at e
      obtain ⟨y, hy1, hy2⟩ := Lib.mapM_at hys j _ hj1
      have hd : y.1 = x.2 := by
        rw [← e.1, List.getElem?_map, hy1] at hj2
        simpa using hj2
      have := take_at (locate_at fuel fuel' _ _ y.1 y.2 _ v hy2 (by rw [hd]; exact hv))
      rwa [Nat.add_sub_cancel' hi.1] at this
    case h_5 n e ds ht =>
      split at hl
      case isTrue => cases hl
      case isFalse hc =>
      obtain ⟨x, hx, hv⟩ := Option.bind_eq_some_iff.1 hl
      unfold DataW.trod at h
      rw [ht] at h
      simp only at h
      split at h
      case isFalse => cases h
      case isTrue hlen =>
      obtain ⟨ys, hys, e'⟩ := Option.map_eq_some_iff.1 h
      simp only [Prod.mk.injEq, DataW.agg.injEq] at e'
      rw [← e'.1, List.getElem?_map] at hx
      obtain ⟨y, hy1, hyd⟩ := Option.map_eq_some_iff.1 hx
      have hjl : i / P.cellsOf e < ys.length := (List.getElem?_eq_some_iff.1 hy1).1
      have hn : ys.length = n := by rw [Lib.mapM_length hys, List.length_range]
      obtain ⟨y2, hz1, hz2⟩ := Lib.mapM_at hys (i / P.cellsOf e) (i / P.cellsOf e) (by rw [List.getElem?_range (by omega)])
      rw [hy1] at hz1
      obtain rfl := Option.some.inj hz1
      have := take_at (locate_at fuel fuel' _ _ y.1 y.2 _ v hz2 (by rw [hyd]; exact hv))
      rwa [Nat.mul_comm, Nat.div_add_mod] at this
    case h_6 => cases hl
end

/-- The first variable of a row's list: what stands in its cells. -/
theorem cells_of_head {P : Program} {W : World} {name : String} {D : DataW Unit} {rest : List (String × DataW Unit)} {g : Nat} {t : TypeId} (fuel : Nat) {vs : List Value}
    (hg : P.globalNamed name = some g) (ht : (P.globals[g]?).map (·.type) = some t) (h : laidMet P ((name, D) :: rest) W)
    (hv : (List.range vs.length).map (locate P fuel t D) = vs.map some) : ∀ (i : Nat) (v : Value), vs[i]? = some v → W.cell? ⟨g, i, none⟩ = some v := by
  intro i v hi
  obtain ⟨ps, ⟨g', t', cs, fuel', p, q, hg', ht', hvar, hd, _, _⟩, _⟩ := h
  obtain rfl := Option.some.inj (hg.symm.trans hg')
  obtain rfl := Option.some.inj (ht.symm.trans ht')
  have hlt : i < vs.length := (List.getElem?_eq_some_iff.1 hi).1
  have h1 : ((List.range vs.length).map (locate P fuel t D))[i]? = (vs.map some)[i]? := by rw [hv]
  rw [List.getElem?_map, List.getElem?_map, List.getElem?_range hlt, hi] at h1
  have h2 := locate_at fuel fuel' t cs.toList D p i v hd (by simpa using h1)
  rw [World.var?_cell hg hvar i]
  simpa using h2
end Tables
end Go.Proofs.YtmdkocegnbcgmaaGreatDoor
