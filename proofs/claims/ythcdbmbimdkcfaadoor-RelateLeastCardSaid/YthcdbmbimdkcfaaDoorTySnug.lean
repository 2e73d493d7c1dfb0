/- Types that were made: where they stand, and rows of them. -/
import Derived.Test.YthcdbmbimdkcfaaDoorTyGather
namespace Go.Proofs.YthcdbmbimdkcfaaDoor
open Go.RowKit ObjM
namespace TyD

theorem cell_heap {W W' : World} (e : W'.heap = W.heap) (a : Addr) : W'.cell? a = W.cell? a := by
  unfold World.cell?
  rw [e]
theorem StrsAt.heap {W W' : World} {v : Value} {l : List ByteArray} (h : StrsAt W v l) (e : W'.heap = W.heap) : StrsAt W' v l := by
  obtain ⟨av, cap, rfl, hc, hc2, hc3, h1⟩ := h
  refine ⟨av, cap, rfl, hc, hc2, hc3, ?_⟩
  rcases h1 with h1 | ⟨g, o, h1, h2, h3⟩
  · exact .inl h1
  · exact .inr ⟨g, o, h1, by rw [e]; exact h2, fun i x hx => (cell_heap e _).trans (h3 i x hx)⟩
theorem TyAt.heap {W W' : World} {vn va : Value} {t : Ty} (h : TyAt W vn va t) (e : W'.heap = W.heap) : TyAt W' vn va t := by
  induction h with
  | mk k ns ls vn va vns vas hn ha _ ih =>
    refine .mk k ns ls vn va vns vas (hn.heap e) ?_ ih
    obtain ⟨av, cap, rfl, hc, hc2, hc3, h1⟩ := ha
    refine ⟨av, cap, rfl, hc, hc2, hc3, ?_⟩
    rcases h1 with h1 | ⟨g, o, h1, h2, h3⟩
    · exact .inl h1
    · exact .inr ⟨g, o, h1, by rw [e]; exact h2, fun i x hx => by
        obtain ⟨q0, q1, q2⟩ := h3 i x hx
        exact ⟨(cell_heap e _).trans q0, (cell_heap e _).trans q1, (cell_heap e _).trans q2⟩⟩
/-- A type in memory that stands on some blocks alone: it holds wherever these are as they are here. -/
def Snug (W : World) (D : Nat → Prop) (vn va : Value) (t : Ty) : Prop :=
  (∀ k, D k → k < W.heap.size) ∧ ∀ W' : World, W.heap.size ≤ W'.heap.size → (∀ k, D k → W'.heap[k]? = W.heap[k]?) → TyAt W' vn va t
theorem Snug.now {W : World} {D : Nat → Prop} {vn va : Value} {t : Ty} (h : Snug W D vn va t) : TyAt W vn va t := h.2 W (Nat.le_refl _) fun _ _ => rfl
theorem Snug.agree {W W' : World} {D : Nat → Prop} {vn va : Value} {t : Ty} (h : Snug W D vn va t) (hs : W.heap.size ≤ W'.heap.size) (ha : ∀ k, D k → W'.heap[k]? = W.heap[k]?) : Snug W' D vn va t :=
  ⟨fun k hk => Nat.lt_of_lt_of_le (h.1 k hk) hs, fun V hV hag => h.2 V (Nat.le_trans hs hV) fun k h1 => (hag k h1).trans (ha k h1)⟩
theorem Snug.keeps {W W' : World} {S : List Nat} {D : Nat → Prop} {vn va : Value} {t : Ty} (h : Snug W D vn va t) (k : Keeps S W W') (hS : ∀ x ∈ S, ¬ D x) : Snug W' D vn va t :=
  h.agree k.size fun x h1 => k.block x (h.1 x h1) fun hm => hS x hm h1
theorem Snug.below {W W' : World} {D : Nat → Prop} {vn va : Value} {t : Ty} (h : Snug W D vn va t) (k : Below W.heap.size W W') : Snug W' D vn va t :=
  h.agree k.size fun x h1 => k.block x (h.1 x h1)
theorem Snug.sub {W : World} {D E : Nat → Prop} {vn va : Value} {t : Ty} (h : Snug W D vn va t) (h1 : ∀ k, D k → E k) (h2 : ∀ k, E k → k < W.heap.size) : Snug W E vn va t :=
  ⟨h2, fun V hV hag => h.2 V hV fun k a => hag k (h1 k a)⟩
theorem fresh_iff {w w' : World} {t : Ty} {e : Ending} : FreshIs w t e w' ↔ ∃ vn va, e = .returned (.agg #[.int .i64 t.kind, vn, va]) ∧ Snug w' (fun k => w.heap.size ≤ k ∧ k < w'.heap.size) vn va t ∧ Below w.heap.size w w' :=
  ⟨fun ⟨vn, va, h1, h2, h3⟩ => ⟨vn, va, h1, ⟨fun _ hk => hk.2, fun W' hs hag => h2 W' hs fun k a b => hag k ⟨a, b⟩⟩, h3⟩, fun ⟨vn, va, h1, h2, h3⟩ => ⟨vn, va, h1, fun W' hs hag => h2.2 W' hs fun k hk => hag k hk.1 hk.2, h3⟩⟩
/-- A type that stands in what came in. -/
theorem snug_of {w W : World} {vn va : Value} {t : Ty} (h : TyAt w vn va t) (hb : Below w.heap.size w W) : Snug W (fun k => k < w.heap.size) vn va t :=
  ⟨fun k hk => Nat.lt_of_lt_of_le hk hb.size, fun V hV hag => by
    have hbv : Below w.heap.size w { w with heap := V.heap } := ⟨rfl, rfl, rfl, Nat.le_trans hb.size hV, fun k hk => (hag k hk).trans (hb.block k hk)⟩
    exact (h.frame (Nat.le_refl _) hbv).heap rfl⟩
/-- A row's cells: each type's kind, and its two lists. -/
def rowX (xs : List (Ty × Value × Value)) : List Value := xs.flatMap fun x => [Value.int .i64 x.1.kind, x.2.1, x.2.2]
theorem rowX_len (xs : List (Ty × Value × Value)) : (rowX xs).length = xs.length * 3 := by
  induction xs with
  | nil => rfl
  | cons a r ih => simp [rowX] at ih ⊢; omega
theorem rowX_snoc (xs : List (Ty × Value × Value)) (x : Ty × Value × Value) : rowX (xs ++ [x]) = rowX xs ++ [Value.int .i64 x.1.kind, x.2.1, x.2.2] := by simp [rowX]
theorem rowX_at : ∀ (l : List (Ty × Value × Value)) (i : Nat) (x : Ty × Value × Value), l[i]? = some x → (rowX l)[i * 3]? = some (.int .i64 x.1.kind) ∧ (rowX l)[i * 3 + 1]? = some x.2.1 ∧ (rowX l)[i * 3 + 2]? = some x.2.2
  | [], i, e, h => by simp at h
  | a :: r, 0, e, h => by
    simp at h
    subst h
    simp [rowX]
  | a :: r, i + 1, e, h => by
    have ih := rowX_at r i e (by simpa using h)
    have e1 : (i + 1) * 3 = i * 3 + 1 + 1 + 1 := by omega
    rw [e1]
    simp [rowX] at ih ⊢
    exact ih
/-- A row of types that is the call's own; what each stands on is neither one of the places S nor the row itself. -/
structure RowSnug (W : World) (base : Nat) (E : Nat → Prop) (S : List Nat) (v : Value) (xs : List (Ty × Value × Value)) : Prop where
  own : W.ownsRow base 25 3 v xs.length (rowX xs)
  each : ∀ x ∈ xs, ∃ D : Nat → Prop, (∀ k, D k → E k) ∧ (∀ y ∈ S, ¬ D y) ∧ (∀ g, v.ownBlock = some g → ¬ D g) ∧ Snug W D x.2.1 x.2.2 x.1
theorem RowSnug.nil (W : World) (base : Nat) (E : Nat → Prop) (S : List Nat) : RowSnug W base E S (.slice none 0 0) [] := ⟨World.ownsRow_nil _ _ _ _, fun x hx => by simp at hx⟩
theorem RowSnug.keeps {W W' : World} {base : Nat} {E : Nat → Prop} {S T : List Nat} {v : Value} {xs : List (Ty × Value × Value)} (h : RowSnug W base E S v xs) (k : Keeps T W W') (hT : ∀ x ∈ T, x ∈ S ∧ x < base) : RowSnug W' base E S v xs :=
  ⟨own_keeps h.own k fun g hg hm => by have := own_lt h.own g hg; have := (hT g hm).2; omega, fun x hx => by
    obtain ⟨D, h1, h2, h3, h4⟩ := h.each x hx
    exact ⟨D, h1, h2, h3, h4.keeps k fun y hy => h2 y (hT y hy).1⟩⟩
theorem RowSnug.below {W W' : World} {base : Nat} {E : Nat → Prop} {S : List Nat} {v : Value} {xs : List (Ty × Value × Value)} (h : RowSnug W base E S v xs) (k : Below W.heap.size W W') : RowSnug W' base E S v xs :=
  h.keeps (Keeps.below' k []) (by simp)
theorem RowSnug.shape {W : World} {base : Nat} {E : Nat → Prop} {S : List Nat} {v : Value} {xs : List (Ty × Value × Value)} (h : RowSnug W base E S v xs) : ∃ a c, v = .slice a xs.length c := by
  rcases own_shape h.own with ⟨h9, h8, _⟩ | ⟨g', cap', cs', h9, _⟩
  · exact ⟨none, 0, by rw [h9, h8]⟩
  · exact ⟨_, _, h9⟩
theorem one_of {W : World} {vn va : Value} {t : Ty} (h : TyAt W vn va t) : ∀ u ∈ [Value.int .i64 t.kind, vn, va], u.oneCell' = true := by
  obtain ⟨an, cn, aa, ca, rfl, rfl⟩ := h.shape
  intro u hu
  simp at hu
  rcases hu with rfl | rfl | rfl <;> rfl
/-- append of one type, in a block of its own. -/
theorem RowSnug.push {W : World} {base : Nat} {E : Nat → Prop} {S : List Nat} {v : Value} {xs : List (Ty × Value × Value)} (h : RowSnug W base E S v xs) {D : Nat → Prop} {vn va : Value} {t : Ty} (hs : Snug W D vn va t) (hE : ∀ k, D k → E k)
    (hS : ∀ y ∈ S, ¬ D y) (hv : ∀ g, v.ownBlock = some g → ¬ D g) (hn : xs.length ≤ 1000000000000) (hb : base ≤ W.heap.size) :
    ∃ v' w', (Builtin.append_ #[23, 23] 23 #[v, .slice (some ⟨W.heap.size, 0, none⟩) 1 1]).run Tryd.prog (W.alloc (.cells #[.int .i64 t.kind, vn, va] 25)) = .ok v' w' ∧
      RowSnug w' base E S v' (xs ++ [(t, vn, va)]) ∧ Keeps v.ownBlock.toList W w' := by
  obtain ⟨i0, hi0, hz0, hz1, hz2⟩ := info_parts infoTy
  obtain ⟨v', w', hrun, ho, hg, -, hat⟩ := run_append_own_at (P := Tryd.prog) (w := W.alloc (.cells #[.int .i64 t.kind, vn, va] 25)) base 23 23 25 i0 (.agg #[.int .i64 0, .slice none 0 0, .slice none 0 0]) 3 56 Tryd.underlying23 hi0 hz0 hz1 hz2 rfl (by decide) v xs.length (rowX xs) (h.own.alloc _) ⟨W.heap.size, 0, none⟩ 1 1 [.int .i64 t.kind, vn, va] rfl
    (fun k u hk => by rw [addr_at, Nat.zero_add, (Has.new W 25 [.int .i64 t.kind, vn, va]).cell]; exact hk) (one_of hs.now) (by unfold maxLen; omega) (by omega) (by simp; omega)
  have K : Keeps v.ownBlock.toList W w' := (Keeps.alloc _ W _).trans (Keeps.grown hg) fun x hx => .inl hx
  refine ⟨v', w', hrun, ⟨by rw [rowX_snoc, List.length_append]; exact ho, fun x hx => ?_⟩, K⟩
  have hfar : ∀ (D : Nat → Prop), (∀ k, D k → k < W.heap.size) → (∀ g, v.ownBlock = some g → ¬ D g) → ∀ g, v'.ownBlock = some g → ¬ D g := by
    intro D h1 h2 g hg'
    rcases hat with e | e
    · exact h2 g (e ▸ hg')
    · rw [e] at hg'
      simp at hg'
      subst hg'
      intro hd
      have := h1 _ hd
      omega
  rcases List.mem_append.1 hx with hx | hx
  · obtain ⟨D', h1, h2, h3, h4⟩ := h.each x hx
    exact ⟨D', h1, h2, hfar D' h4.1 h3, h4.keeps K fun y hy => h3 y (Option.mem_toList.1 hy)⟩
  · rw [List.mem_singleton] at hx
    subst hx
    exact ⟨D, hE, hS, hfar D hs.1 hv, hs.keeps K fun y hy => hv y (Option.mem_toList.1 hy)⟩
/-- The row in a later world: it wants what it stands on as it was. -/
theorem RowSnug.tys {W W' : World} {base : Nat} {E : Nat → Prop} {S : List Nat} {v : Value} {xs : List (Ty × Value × Value)} (h : RowSnug W base E S v xs) (hE : ∀ k, base ≤ k → E k) (hs : W.heap.size ≤ W'.heap.size) (hag : ∀ k, E k → k < W.heap.size → W'.heap[k]? = W.heap[k]?) : TysAt W' v (xs.map (·.1)) := by
  have ho := own_agree h.own fun k h1 h2 => hag k (hE k h1) h2
  refine ⟨fun i => ((xs[i]?).map (·.2.1)).getD (.tuple #[]), fun i => ((xs[i]?).map (·.2.2)).getD (.tuple #[]), ?_, fun i t hi => ?_⟩
  · rcases own_shape ho with ⟨rfl, hn, hx⟩ | ⟨g, cap, cs, rfl, hBg, hh, hnc, hcm, hcl, htk⟩
    · have : xs = [] := List.length_eq_zero_iff.1 hn
      subst this
      exact ⟨none, 0, rfl, by simp, by simp, fun _ => rfl, .inl rfl⟩
    · refine ⟨_, _, by rw [List.length_map], by rw [List.length_map]; exact hnc, by unfold maxLen at hcm; omega, (fun e => by simp at e), .inr ⟨g, 0, rfl, hh.lt, fun i t hi => ?_⟩⟩
      rw [List.getElem?_map] at hi
      obtain ⟨x, hx, rfl⟩ := Option.map_eq_some_iff.1 hi
      obtain ⟨q0, q1, q2⟩ := rowX_at xs i x hx
      obtain ⟨hj0, hv0⟩ := List.getElem?_eq_some_iff.1 q0
      obtain ⟨hj1, hv1⟩ := List.getElem?_eq_some_iff.1 q1
      obtain ⟨hj2, hv2⟩ := List.getElem?_eq_some_iff.1 q2
      rw [Nat.zero_add]
      exact ⟨by rw [own_cell ho _ hj0, hv0], by rw [own_cell ho _ hj1, hv1]; simp [hx], by rw [own_cell ho _ hj2, hv2]; simp [hx]⟩
  · rw [List.getElem?_map] at hi
    obtain ⟨x, hx, rfl⟩ := Option.map_eq_some_iff.1 hi
    obtain ⟨D, h1, h2, h3, h4⟩ := h.each x (List.mem_of_getElem? hx)
    simp only [hx, Option.map_some, Option.getD_some]
    exact h4.2 W' hs fun k a => hag k (h1 k a) (h4.1 k a)
end TyD
end Go.Proofs.YthcdbmbimdkcfaaDoor
