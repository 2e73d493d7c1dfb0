/- The program's Walk: two rows that a loop over preorder fills. -/
import Derived.Test.YtakdmlaecidjaaaGreatDoorTck21
import Derived.Test.YtakdmlaecidjaaaGreatDoorTck23
namespace Go.Proofs.YtakdmlaecidjaaaGreatDoor
open Go.RowKit Go.Shelf ObjM RoundM
namespace TreeD
attribute [local go_sem] Oper.semAt_some

theorem KC.alloc {ts : List TypeId} (W : World) (o : Obj) : KC ts W (W.alloc o) := ⟨by simp, fun k cs t fr h _ => (Below.heap_alloc _ _ _ (Array.getElem?_eq_some_iff.1 h).1).trans h⟩
theorem KC.drew {ts : List TypeId} (W : World) : KC ts W W.drew := ⟨Nat.le_refl _, fun _ _ _ _ h _ => h⟩
theorem KC.grown {ts : List TypeId} {W W' : World} {row : Option Nat} (hg : W.grownBy W' row) (hr : ∀ g, row = some g → ∃ t cs, Has W g t cs ∧ t ∈ ts) : KC ts W W' :=
  ⟨hg.size, fun k cs t fr h ht => by
    refine (hg.block k (Array.getElem?_eq_some_iff.1 h).1 fun e => ?_).trans h
    obtain ⟨t2, cs2, h2, h3⟩ := hr k e.symm
    rw [show W.heap[k]? = _ from h2] at h
    injection h with h
    injection h with _ h _
    exact ht (h ▸ h3)⟩
theorem KC.set {ts : List TypeId} {W : World} {G : Nat} {t : TypeId} {cs : List Value} (hG : Has W G t cs) (ht : t ∈ ts) (i : Nat) (v : Value) : KC ts W (W.setCell ⟨G, i, none⟩ v) :=
  ⟨by simp [World.setCell], fun k cs2 t2 fr h ht2 => by
    have hne : k ≠ G := by
      rintro rfl
      rw [show W.heap[k]? = _ from hG] at h
      injection h with h
      injection h with _ h _
      exact ht2 (h ▸ ht)
    exact (Below.heap_setCell _ _ _ k hne).trans h⟩
/-- What a round leaves: whatever is no cells, what lay ahead, and cells of other types. -/
def Rd (n₀ : Nat) (W W' : World) : Prop := KeepsOthers W W' ∧ KpW n₀ W W'
theorem Rd.trans {n₀ : Nat} {A B C : World} (h : Rd n₀ A B) (k : Rd n₀ B C) : Rd n₀ A C := ⟨h.1.trans k.1, kpw_t h.2 k.2⟩
theorem Rd.alloc {n₀ : Nat} (W : World) (h : n₀ ≤ W.heap.size) (o : Obj) : Rd n₀ W (W.alloc o) := ⟨KeepsOthers.alloc _ _, (Below.refl _ _).alloc h _, KC.alloc W o⟩
theorem Rd.drew {n₀ : Nat} (W : World) : Rd n₀ W W.drew := ⟨⟨Nat.le_refl _, fun _ _ h _ => h⟩, (Below.refl _ _).drew, KC.drew W⟩
theorem Rd.size {n₀ : Nat} {W W' : World} (h : Rd n₀ W W') : W.heap.size ≤ W'.heap.size := h.2.2.1
theorem rd_push {n₀ : Nat} {W W' : World} {B : Nat} {v : Value} {k : Nat} {xs : List Value} (h : W.ownsRow B 3 1 v k xs) (hB : n₀ ≤ B) (hs : n₀ ≤ W.heap.size) (hg : W.grownBy W' v.ownBlock) : Rd n₀ W W' := by
  have hr : ∀ g, v.ownBlock = some g → ∃ cs, Has W g 3 cs := fun g e => own_row h g e
  refine ⟨KeepsOthers.of_grownBy hg (fun g o e ho => ?_), (Below.refl _ W).grown hg hs (fun g e => Nat.le_trans hB (own_lt h g e).1), KC.grown hg fun g e => ?_⟩
  · obtain ⟨cs, h2⟩ := hr g e
    rw [show W.heap[g]? = _ from h2] at ho
    injection ho with ho
    subst ho
    rfl
  · obtain ⟨cs, h2⟩ := hr g e
    exact ⟨_, _, h2, by simp⟩
theorem rd_store {n₀ : Nat} {W : World} {G : Nat} {cs : List Value} (h : Has W G 30 cs) (hG : n₀ ≤ G) (v : Value) : Rd n₀ W (W.setCell ⟨G, 0, none⟩ v) :=
  ⟨KeepsOthers.setCell _ _ _, (Below.refl _ W).setCell hG _, KC.set h (by simp) 0 v⟩
theorem cell_same {W W' : World} {k : Nat} (h : W'.heap[k]? = W.heap[k]?) (i : Nat) : W'.cell? ⟨k, i, none⟩ = W.cell? ⟨k, i, none⟩ := by
  simp [World.cell?, h]
/-- Two boxes, and two rows of numbers. -/
structure Two (w W : World) (Bo Bd : Nat) (bv bu v u : Value) (zs ds : List Int) : Prop where
  b : Below w.heap.size w W
  o : Has W Bo 30 [bv]
  d : Has W Bd 30 [bu]
  r : W.ownsRow w.heap.size 3 1 v zs.length (zs.map (Value.int .i64))
  s : W.ownsRow w.heap.size 3 1 u ds.length (ds.map (Value.int .i64))
  x : ∀ g, v.ownBlock = some g → u.ownBlock ≠ some g
  lo : w.heap.size ≤ Bo ∧ w.heap.size ≤ Bd ∧ Bo ≠ Bd
theorem Two.keeps {w W W' : World} {Bo Bd : Nat} {bv bu v u : Value} {zs ds : List Int} (h : Two w W Bo Bd bv bu v u zs ds) (k : Keeps [] W W') : Two w W' Bo Bd bv bu v u zs ds :=
  ⟨h.b.trans (k.toBelow _ h.b.size (by simp)), h.o.keeps k (by simp), h.d.keeps k (by simp), own_keeps h.r k (fun _ _ => by simp), own_keeps h.s k (fun _ _ => by simp), h.x, h.lo⟩
theorem Two.noncell {w W W' : World} {Bo Bd : Nat} {bv bu v u : Value} {zs ds : List Int} (h : Two w W Bo Bd bv bu v u zs ds) {row : Option Nat} (hg : W.grownBy W' row) (hr : ∀ r, row = some r → w.heap.size ≤ r ∧ ∃ o : Obj, W.heap[r]? = some o ∧ o.isCells = false) : Two w W' Bo Bd bv bu v u zs ds := by
  have hne : ∀ G t cs, Has W G t cs → G ∉ row.toList := by
    intro G t cs hG hm
    obtain ⟨-, o, ho, hc⟩ := hr G (Option.mem_toList.1 hm)
    rw [show W.heap[G]? = _ from hG] at ho
    cases ho
    cases hc
  refine ⟨h.b.grown hg h.b.size (fun g e => (hr g e).1), h.o.keeps (Keeps.grown hg) (hne _ _ _ h.o), h.d.keeps (Keeps.grown hg) (hne _ _ _ h.d), own_keeps h.r (Keeps.grown hg) (fun g e => ?_), own_keeps h.s (Keeps.grown hg) (fun g e => ?_), h.x, h.lo⟩
  · obtain ⟨cs, h2⟩ := own_row h.r g e
    exact hne _ _ _ h2
  · obtain ⟨cs, h2⟩ := own_row h.s g e
    exact hne _ _ _ h2
theorem Two.pushO {w W : World} {Bo Bd : Nat} {bv bu v u : Value} {zs ds : List Int} (h : Two w W Bo Bd bv bu v u zs ds) (n : Int) (hn : zs.length ≤ 100000000) (ad c0 : Nat) (hc : W.cell? ⟨ad, 0, none⟩ = some (.int .i64 n)) :
    ∃ v2 W2, (Builtin.append_ #[30, 30] 30 #[v, .slice (some ⟨ad, 0, none⟩) 1 c0]).run Tryz.prog W = .ok v2 W2 ∧ Two w W2 Bo Bd bv bu v2 u (zs ++ [n]) ds ∧ Rd w.heap.size W W2 ∧ W.grownBy W2 v.ownBlock := by
  obtain ⟨v2, W2, hrun, ho, hg, hb⟩ := app_int2 30 n h.r hn h.b.size ad c0 hc
  have k := Keeps.grown hg
  refine ⟨v2, W2, hrun, ⟨h.b.grown hg h.b.size (fun g e => (own_lt h.r g e).1), h.o.keeps k (fun hm => own_ne h.r h.o (by decide +kernel) _ (Option.mem_toList.1 hm) rfl), h.d.keeps k (fun hm => own_ne h.r h.d (by decide +kernel) _ (Option.mem_toList.1 hm) rfl), ho, own_keeps h.s k (fun g e hm => h.x g (Option.mem_toList.1 hm) e), fun g e => ?_, h.lo⟩, rd_push h.r (Nat.le_refl _) h.b.size hg, hg⟩
  rcases hb with hb | hb
  · rw [hb] at e
    exact h.x g e
  · rw [hb] at e
    injection e with e
    intro e2
    have := (own_lt h.s g e2).2
    omega
theorem Two.pushD {w W : World} {Bo Bd : Nat} {bv bu v u : Value} {zs ds : List Int} (h : Two w W Bo Bd bv bu v u zs ds) (n : Int) (hn : ds.length ≤ 100000000) (ad c0 : Nat) (hc : W.cell? ⟨ad, 0, none⟩ = some (.int .i64 n)) :
    ∃ u2 W2, (Builtin.append_ #[30, 30] 30 #[u, .slice (some ⟨ad, 0, none⟩) 1 c0]).run Tryz.prog W = .ok u2 W2 ∧ Two w W2 Bo Bd bv bu v u2 zs (ds ++ [n]) ∧ Rd w.heap.size W W2 ∧ W.grownBy W2 u.ownBlock := by
  obtain ⟨v2, W2, hrun, ho, hg, hb⟩ := app_int2 30 n h.s hn h.b.size ad c0 hc
  have k := Keeps.grown hg
  refine ⟨v2, W2, hrun, ⟨h.b.grown hg h.b.size (fun g e => (own_lt h.s g e).1), h.o.keeps k (fun hm => own_ne h.s h.o (by decide +kernel) _ (Option.mem_toList.1 hm) rfl), h.d.keeps k (fun hm => own_ne h.s h.d (by decide +kernel) _ (Option.mem_toList.1 hm) rfl), own_keeps h.r k (fun g e hm => h.x g e (Option.mem_toList.1 hm)), ho, fun g e => ?_, h.lo⟩, rd_push h.s (Nat.le_refl _) h.b.size hg, hg⟩
  rcases hb with hb | hb
  · rw [hb]
    exact h.x g e
  · rw [hb]
    intro e2
    injection e2 with e2
    have := (own_lt h.r g e).2
    omega
theorem Two.stores {w W : World} {Bo Bd : Nat} {bv bu v u : Value} {zs ds : List Int} (h : Two w W Bo Bd bv bu v u zs ds) : Two w ((W.setCell ⟨Bo, 0, none⟩ v).setCell ⟨Bd, 0, none⟩ u) Bo Bd v u v u zs ds ∧ Rd w.heap.size W ((W.setCell ⟨Bo, 0, none⟩ v).setCell ⟨Bd, 0, none⟩ u) := by
  have k1 := Keeps.set W Bo 0 v
  have k2 := Keeps.set (W.setCell ⟨Bo, 0, none⟩ v) Bd 0 u
  have hd := h.d.keeps k1 (by have := h.lo.2.2; simp; omega)
  have n1 : ∀ g, v.ownBlock = some g → g ≠ Bo ∧ g ≠ Bd := fun g e => ⟨own_ne h.r h.o (by decide +kernel) g e, own_ne h.r h.d (by decide +kernel) g e⟩
  have n2 : ∀ g, u.ownBlock = some g → g ≠ Bo ∧ g ≠ Bd := fun g e => ⟨own_ne h.s h.o (by decide +kernel) g e, own_ne h.s h.d (by decide +kernel) g e⟩
  refine ⟨⟨((h.b).setCell h.lo.1 _).setCell h.lo.2.1 _, (h.o.set 0 v).keeps k2 (by have := h.lo.2.2; simp; omega), hd.set 0 u, own_keeps (own_keeps h.r k1 fun g e => by simpa using (n1 g e).1) k2 fun g e => by simpa using (n1 g e).2, own_keeps (own_keeps h.s k1 fun g e => by simpa using (n2 g e).1) k2 fun g e => by simpa using (n2 g e).2, h.x, h.lo⟩, ?_⟩
  exact (rd_store h.o h.lo.1 v).trans (rd_store hd h.lo.2.1 u)
end TreeD
end Go.Proofs.YtakdmlaecidjaaaGreatDoor
