/- Values of either type are of the join (plain). -/
import Derived.Test.YthcdbmbimdkcfaaDoorTyJoin
import Derived.Test.YthcdbmbimdkcfaaDoorTyMeet
namespace Go.Proofs.YthcdbmbimdkcfaaDoor
open Go.RowKit ObjM
namespace TyD

theorem union_fin : ∀ n : Fin 128, checkV (unionP (bitsOf n.val)) = true ∧ (unionP (bitsOf n.val)).kind ≤ 7 ∧ ((unionP (bitsOf n.val)).kind = 0 ∨ (n.val &&& 95 = n.val → kindsV (unionP (bitsOf n.val)) = n.val)) := by decide +kernel
theorem and_fin : ∀ x y : Fin 128, x.val &&& (x.val ||| y.val) = x.val ∧ y.val &&& (x.val ||| y.val) = y.val ∧ (x.val &&& 95 = x.val → y.val &&& 95 = y.val → (x.val ||| y.val) &&& 95 = (x.val ||| y.val)) := by decide +kernel
theorem kind_fin : ∀ k : Fin 7, k.val ≠ 0 → kindOf (k.val : Int) &&& 95 = kindOf (k.val : Int) := by decide +kernel
theorem kind_flat {k : Int} (h1 : 0 < k) (h2 : k ≤ 6) : kindOf k &&& 95 = kindOf k := by
  obtain ⟨n, rfl⟩ := Int.eq_ofNat_of_zero_le (Int.le_of_lt h1)
  have := kind_fin ⟨n, by omega⟩ (by simp; omega)
  exact this
theorem fold_flat : ∀ (l : List Ty) (m : Nat), m < 128 → m &&& 95 = m → (∀ a ∈ l, 0 < a.kind ∧ a.kind ≤ 6) → l.foldl (fun m a => m ||| kindOf a.kind) m &&& 95 = l.foldl (fun m a => m ||| kindOf a.kind) m
  | [], m, _, h, _ => h
  | a :: l, m, hm, h, ha => by
    rw [List.foldl_cons]
    have h1 := ha a (List.mem_cons_self ..)
    exact fold_flat l _ (Nat.or_lt_two_pow (n := 7) hm (kindOf_lt _)) ((and_fin ⟨m, hm⟩ ⟨kindOf a.kind, kindOf_lt _⟩).2.2 h (kind_flat h1.1 h1.2)) fun x hx => ha x (List.mem_cons_of_mem _ hx)
theorem flat_bits {a : Ty} (h : checkV a = true) (h0 : a.kind ≠ 0) (h7 : a.kind ≤ 7) : kindsV a &&& 95 = kindsV a := by
  have hk := (Ok.top h).kind
  obtain ⟨k, ns, ls⟩ := a
  rw [kindsV]
  split
  · rename_i hk7
    subst hk7
    exact fold_flat ls 0 (by omega) rfl (members_of h)
  · split
    · rfl
    · split
      · rename_i h9
        subst h9
        simp [Ty.kind] at h7
      · simp only [Ty.kind] at h0 h7 hk
        exact kind_flat (by omega) (by omega)
theorem leafT_ok {k : Nat} (h : k < 7) : TyOk (leafT k) := .mk _ _ _ (by omega) (by simp) (by simp) (by simp) (by simp)
theorem anyT_ok : TyOk anyT := .mk _ _ _ (by omega) (by simp) (by simp) (by simp) (by simp)
theorem union_ok (p : Nat → Bool) : TyOk (unionP p) := by
  have hl : ∀ t ∈ ([1, 2, 3, 4, 5, 6].filter p).map (fun k => Ty.mk ((k : Nat) : Int) [] []), TyOk t := by
    intro t ht
    obtain ⟨k, hk, rfl⟩ := List.mem_map.1 ht
    have := (List.mem_filter.1 hk).1
    exact leafT_ok (k := k) (by simp at this; omega)
  have hn : (([1, 2, 3, 4, 5, 6].filter p).map (fun k => Ty.mk ((k : Nat) : Int) [] [])).length ≤ 6 := by
    rw [List.length_map]
    exact List.length_filter_le p [1, 2, 3, 4, 5, 6]
  unfold unionP
  generalize ([1, 2, 3, 4, 5, 6].filter p).map (fun k => Ty.mk ((k : Nat) : Int) [] []) = l at hl hn
  dsimp only
  split
  · exact anyT_ok
  · rename_i t
    exact hl t (by simp)
  · split
    · exact anyT_ok
    · exact .mk _ _ _ (by omega) (by simp) (by simp) (by omega) hl
theorem bothV_mk' {a b : Ty} (ha : checkV a = true) (hb : checkV b = true) : bothV a b = true := by
  unfold bothV
  rw [ha, hb]
  rfl
theorem subT_of {a b : Ty} (ha : checkV a = true) (hb : checkV b = true) (h : subB 50 a b = true) : subT a b = true := by
  unfold subT
  rw [bothV_mk' ha hb, h]
  rfl
theorem sub_any_of {r : Nat} {a b : Ty} (h : b.kind = 0) : subB (r + 1) a b = true := by rw [subB, if_pos h]
theorem join_facts {a b : Ty} (ha : checkV a = true) (hb : checkV b = true) (oka : TyOk a) (okb : TyOk b) :
    TyOk (joinV a b) ∧ subT a (joinV a b) = true ∧ subT b (joinV a b) = true := by
  have oa := Ok.top ha
  have ob := Ok.top hb
  rw [joinV_def, if_pos (bothV_mk' ha hb)]
  by_cases h1 : subB 50 a b = true
  · rw [if_pos h1]
    exact ⟨okb, subT_of ha hb h1, subT_of hb hb (sub_refl _ _ ob)⟩
  rw [if_neg h1]
  by_cases h2 : subB 50 b a = true
  · rw [if_pos h2]
    exact ⟨oka, subT_of ha ha (sub_refl _ _ oa), subT_of hb ha h2⟩
  rw [if_neg h2]
  by_cases h3 : (decide (a.kind ≤ 7) && decide (b.kind ≤ 7)) = true
  · rw [if_pos h3]
    simp only [Bool.and_eq_true, decide_eq_true_eq] at h3
    have a0 : a.kind ≠ 0 := fun e => h2 (sub_any_of (r := 49) e)
    have b0 : b.kind ≠ 0 := fun e => h1 (sub_any_of (r := 49) e)
    have fa := flat_bits ha a0 h3.1
    have fb := flat_bits hb b0 h3.2
    have hn := Nat.or_lt_two_pow (n := 7) (kindsV_lt a) (kindsV_lt b)
    obtain ⟨u1, u2, u3⟩ := union_fin ⟨_, hn⟩
    obtain ⟨m1, m2, m3⟩ := and_fin ⟨_, kindsV_lt a⟩ ⟨_, kindsV_lt b⟩
    simp only at u1 u2 u3 m1 m2 m3
    have side : ∀ c : Ty, checkV c = true → c.kind ≠ 0 → c.kind ≤ 7 → kindsV c &&& (kindsV a ||| kindsV b) = kindsV c → subT c (unionP (bitsOf (kindsV a ||| kindsV b))) = true := by
      intro c hc c0 c7 hm
      refine subT_of hc u1 ?_
      rcases u3 with u3 | u3
      · exact sub_any_of (r := 49) u3
      · rw [subB]
        split
        · rfl
        · rw [if_neg (by omega), if_neg (by omega), if_pos (by omega), decide_eq_true u2, u3 (m3 fa fb), Bool.true_and]
          unfold maskB
          rw [decide_eq_true hm]
    exact ⟨union_ok _, side a ha a0 h3.1 m1, side b hb b0 h3.2 m2⟩
  · rw [if_neg h3]
    exact ⟨anyT_ok, subT_of ha (by decide +kernel) (sub_any_of (r := 49) rfl), subT_of hb (by decide +kernel) (sub_any_of (r := 49) rfl)⟩
end TyD
end Go.Proofs.YthcdbmbimdkcfaaDoor
