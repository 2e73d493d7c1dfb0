/- No two types have one text (plain). -/
import Derived.Test.YtmcnoagihnkkcaaDoorTyRShowM
namespace Go.Proofs.YtmcnoagihnkkcaaDoor
open Go.RowKit ObjM
namespace TyD
open LexD (nameB WTab)

/-- Where a type's text may end. -/
def Stop (l : List UInt8) : Prop := l = [] ∨ ∃ c r, l = c :: r ∧ (c = 44 ∨ c = 41 ∨ c = 125)
theorem Stop.of {c : UInt8} {r : List UInt8} (h : c = 44 ∨ c = 41 ∨ c = 125) : Stop (c :: r) := .inr ⟨c, r, rfl, h⟩
theorem span_eq {p : UInt8 → Bool} : ∀ {a b x y : List UInt8}, (∀ c ∈ a, p c = true) → (∀ c ∈ b, p c = true) → (x = [] ∨ ∃ c r, x = c :: r ∧ p c = false) → (y = [] ∨ ∃ c r, y = c :: r ∧ p c = false) → a ++ x = b ++ y → a = b ∧ x = y
  | [], [], x, y, _, _, _, _, h => ⟨rfl, h⟩
  | [], d :: b, x, y, _, hb, hx, _, h => by
    have hd := hb d (List.mem_cons_self ..)
    rcases hx with rfl | ⟨c, r, rfl, hc⟩
    · simp at h
    · simp at h
      rw [h.1, hd] at hc
      cases hc
  | d :: a, [], x, y, ha, _, _, hy, h => by
    have hd := ha d (List.mem_cons_self ..)
    rcases hy with rfl | ⟨c, r, rfl, hc⟩
    · simp at h
    · simp at h
      rw [← h.1, hd] at hc
      cases hc
  | c :: a, d :: b, x, y, ha, hb, hx, hy, h => by
    simp only [List.cons_append, List.cons.injEq] at h
    obtain ⟨h1, h2⟩ := span_eq (fun e he => ha e (List.mem_cons_of_mem _ he)) (fun e he => hb e (List.mem_cons_of_mem _ he)) hx hy h.2
    exact ⟨by rw [h.1, h1], h2⟩
/-- Parts behind a comma each, up to an end. -/
def tailL {α : Type} (f : α → List UInt8) (l : List α) : List UInt8 := (l.map fun a => 44 :: 32 :: f a).flatten
theorem tail_items {α : Type} {f : α → List UInt8} {t : UInt8} (ht : t = 41 ∨ t = 125) : ∀ {us bs : List α} {z1 z2 : List UInt8}, (∀ a ∈ us, ∀ b ∈ bs, ∀ x y, Stop x → Stop y → f a ++ x = f b ++ y → a = b ∧ x = y) →
    tailL f us ++ t :: z1 = tailL f bs ++ t :: z2 → us = bs ∧ z1 = z2
  | [], [], z1, z2, _, h => by
    simp [tailL] at h
    exact ⟨rfl, h⟩
  | [], b :: bs, z1, z2, _, h => by
    simp [tailL] at h
    rcases ht with rfl | rfl <;> simp at h
  | a :: us, [], z1, z2, _, h => by
    simp [tailL] at h
    rcases ht with rfl | rfl <;> simp at h
  | a :: us, b :: bs, z1, z2, hp, h => by
    have stop : ∀ (l : List α) z, Stop (tailL f l ++ t :: z) := by
      intro l z
      cases l with
      | nil => exact Stop.of (by rcases ht with h | h <;> simp [h])
      | cons c l => exact Stop.of (r := 32 :: (f c ++ (tailL f l ++ t :: z))) (.inl rfl) |> fun h => by simpa [tailL] using h
    have h2 : f a ++ (tailL f us ++ t :: z1) = f b ++ (tailL f bs ++ t :: z2) := by
      simpa [tailL] using h
    obtain ⟨e1, e2⟩ := hp a (List.mem_cons_self ..) b (List.mem_cons_self ..) _ _ (stop us z1) (stop bs z2) h2
    obtain ⟨e3, e4⟩ := tail_items ht (fun x hx y hy => hp x (List.mem_cons_of_mem _ hx) y (List.mem_cons_of_mem _ hy)) e2
    exact ⟨by rw [e1, e3], e4⟩
theorem join_tail {α : Type} (f : α → List UInt8) (a : α) (l : List α) : Lib.join ((a :: l).map f) [44, 32] = f a ++ tailL f l := by
  rw [List.map_cons, Lib.join_cons]
  unfold Lib.joinTail tailL
  rw [List.map_map]
  rfl
theorem join_items {α : Type} {f : α → List UInt8} {t : UInt8} (ht : t = 41 ∨ t = 125) {us bs : List α} {z1 z2 : List UInt8} (hp : ∀ a ∈ us, ∀ b ∈ bs, ∀ x y, Stop x → Stop y → f a ++ x = f b ++ y → a = b ∧ x = y)
    (ha : ∀ a ∈ us, ∃ c r, f a = c :: r ∧ c ≠ t) (hb : ∀ b ∈ bs, ∃ c r, f b = c :: r ∧ c ≠ t)
    (h : Lib.join (us.map f) [44, 32] ++ t :: z1 = Lib.join (bs.map f) [44, 32] ++ t :: z2) : us = bs ∧ z1 = z2 := by
  have stop : ∀ (l : List α) z, Stop (tailL f l ++ t :: z) := by
    intro l z
    cases l with
    | nil => exact Stop.of (by rcases ht with h | h <;> simp [h])
    | cons c l => exact Stop.of (r := 32 :: (f c ++ (tailL f l ++ t :: z))) (.inl rfl) |> fun h => by simpa [tailL] using h
  cases us with
  | nil =>
    cases bs with
    | nil =>
      simp [Lib.join_nil] at h
      exact ⟨rfl, h⟩
    | cons b bs =>
      obtain ⟨c, r, e, hc⟩ := hb b (List.mem_cons_self ..)
      rw [join_tail, e] at h
      simp [Lib.join_nil] at h
      exact absurd h.1.symm hc
  | cons a us =>
    cases bs with
    | nil =>
      obtain ⟨c, r, e, hc⟩ := ha a (List.mem_cons_self ..)
      rw [join_tail, e] at h
      simp [Lib.join_nil] at h
      exact absurd h.1 hc
    | cons b bs =>
      rw [join_tail, join_tail, List.append_assoc, List.append_assoc] at h
      obtain ⟨e1, e2⟩ := hp a (List.mem_cons_self ..) b (List.mem_cons_self ..) _ _ (stop us z1) (stop bs z2) h
      obtain ⟨e3, e4⟩ := tail_items ht (fun x hx y hy => hp x (List.mem_cons_of_mem _ hx) y (List.mem_cons_of_mem _ hy)) e2
      exact ⟨by rw [e1, e3], e4⟩
def tL (r : Nat) (t : Ty) : List UInt8 := (txtF r t).data.toList
def bn (k : Int) : List UInt8 := (baseName k).data.toList
def lowB (c : UInt8) : Bool := decide (97 ≤ c.toNat) && decide (c.toNat ≤ 122)
theorem bn_fin : ∀ k : Fin 7, (bn (k.val : Int)).all lowB = true ∧ bn (k.val : Int) ≠ [] ∧ ∀ j : Fin 7, bn (k.val : Int) = bn (j.val : Int) → k = j := by decide +kernel
theorem bn_low {k : Int} (h0 : 0 ≤ k) (h6 : k ≤ 6) : (∀ c ∈ bn k, lowB c = true) ∧ bn k ≠ [] := by
  obtain ⟨n, rfl⟩ := Int.eq_ofNat_of_zero_le h0
  have h := bn_fin ⟨n, by omega⟩
  exact ⟨fun c hc => List.all_eq_true.1 h.1 c hc, h.2.1⟩
theorem bn_inj {k j : Int} (h0 : 0 ≤ k) (h6 : k ≤ 6) (j0 : 0 ≤ j) (j6 : j ≤ 6) (h : bn k = bn j) : k = j := by
  obtain ⟨n, rfl⟩ := Int.eq_ofNat_of_zero_le h0
  obtain ⟨m, rfl⟩ := Int.eq_ofNat_of_zero_le j0
  have := (bn_fin ⟨n, by omega⟩).2.2 ⟨m, by omega⟩ h
  simp at this
  omega
def barL (l : List Int) : List UInt8 := (l.map fun k => 32 :: 124 :: 32 :: bn k).flatten
theorem stop_low {x : List UInt8} (h : Stop x) : x = [] ∨ ∃ c r, x = c :: r ∧ lowB c = false := by
  rcases h with h | ⟨c, r, rfl, h⟩
  · exact .inl h
  · exact .inr ⟨c, r, rfl, by rcases h with rfl | rfl | rfl <;> decide⟩
theorem bar_low {x : List UInt8} (h : Stop x) (l : List Int) : barL l ++ x = [] ∨ ∃ c r, barL l ++ x = c :: r ∧ lowB c = false := by
  cases l with
  | nil => exact stop_low h
  | cons k l => exact .inr ⟨32, 124 :: 32 :: (bn k ++ (barL l ++ x)), by simp [barL], by decide⟩
theorem bar_items : ∀ {us bs : List Int} {x y : List UInt8}, (∀ a ∈ us, 0 ≤ a ∧ a ≤ 6) → (∀ b ∈ bs, 0 ≤ b ∧ b ≤ 6) → Stop x → Stop y → barL us ++ x = barL bs ++ y → us = bs ∧ x = y
  | [], [], x, y, _, _, _, _, h => ⟨rfl, h⟩
  | [], b :: bs, x, y, _, _, hx, _, h => by
    rcases hx with rfl | ⟨c, r, rfl, hc⟩
    · simp [barL] at h
    · simp [barL] at h
      rcases hc with rfl | rfl | rfl <;> simp at h
  | a :: us, [], x, y, _, _, _, hy, h => by
    rcases hy with rfl | ⟨c, r, rfl, hc⟩
    · simp [barL] at h
    · simp [barL] at h
      rcases hc with rfl | rfl | rfl <;> simp at h
  | a :: us, b :: bs, x, y, ha, hb, hx, hy, h => by
    have h2 : bn a ++ (barL us ++ x) = bn b ++ (barL bs ++ y) := by simpa [barL] using h
    have ra := ha a (List.mem_cons_self ..)
    have rb := hb b (List.mem_cons_self ..)
    obtain ⟨e1, e2⟩ := span_eq (bn_low ra.1 ra.2).1 (bn_low rb.1 rb.2).1 (bar_low hx us) (bar_low hy bs) h2
    obtain ⟨e3, e4⟩ := bar_items (fun c hc => ha c (List.mem_cons_of_mem _ hc)) (fun c hc => hb c (List.mem_cons_of_mem _ hc)) hx hy e2
    exact ⟨by rw [bn_inj ra.1 ra.2 rb.1 rb.2 e1, e3], e4⟩
end TyD
end Go.Proofs.YtmcnoagihnkkcaaDoor
