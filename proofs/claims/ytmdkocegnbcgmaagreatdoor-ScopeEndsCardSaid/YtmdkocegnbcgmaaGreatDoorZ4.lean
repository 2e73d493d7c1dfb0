/- Objects of a call's own: what a block holds, what a step may turn. Nothing of the program is named. -/
import Derived.Test.YtmdkocegnbcgmaaGreatDoorZ1
import Derived.OwnWalk
import Derived.RangeFuncBox
import Derived.Deep.RegionLaw
import Derived.Lib.Hide
import Derived.Deep.QuietTactic
namespace Go.Proofs.YtmdkocegnbcgmaaGreatDoor
open Go.RowKit
namespace ObjM

/-- Block G holds these cells. -/
def Has (w : World) (G : Nat) (t : TypeId) (cs : List Value) : Prop := w.heap[G]? = some (.cells cs.toArray t (0, 0))
theorem Has.lt {w : World} {G : Nat} {t : TypeId} {cs : List Value} (h : Has w G t cs) : G < w.heap.size := (Array.getElem?_eq_some_iff.1 h).1
theorem Has.cell {w : World} {G : Nat} {t : TypeId} {cs : List Value} (h : Has w G t cs) (i : Nat) : w.cell? ⟨G, i, none⟩ = cs[i]? := by simp [World.cell?, show w.heap[G]? = _ from h]
theorem Has.frozen {w : World} {G : Nat} {t : TypeId} {cs : List Value} (h : Has w G t cs) (i : Nat) : w.frozen? ⟨G, i, none⟩ = false := by simp [World.frozen?, show w.heap[G]? = _ from h]
theorem Has.ne {w : World} {G K : Nat} {t u : TypeId} {cs ds : List Value} (h : Has w G t cs) (k : Has w K u ds) (htu : t ≠ u) : G ≠ K := by
  rintro rfl
  have := (show w.heap[G]? = _ from h).symm.trans k
  simp at this
  exact htu this.2
theorem Has.new (w : World) (t : TypeId) (cs : List Value) : Has (w.alloc (.cells cs.toArray t)) w.heap.size t cs := World.alloc_heap_new w _
theorem Has.set {w : World} {G : Nat} {t : TypeId} {cs : List Value} (h : Has w G t cs) (i : Nat) (v : Value) : Has (w.setCell ⟨G, i, none⟩ v) G t (cs.set i v) := by
  obtain ⟨hlt, hk⟩ := Array.getElem?_eq_some_iff.1 h
  show (w.heap.modify G _)[G]? = _
  rw [Array.getElem?_eq_getElem (by rw [Array.size_modify]; exact hlt), Array.getElem_modify_self, hk]
  simp
theorem Has.drew {w : World} {G : Nat} {t : TypeId} {cs : List Value} (h : Has w G t cs) : Has w.drew G t cs := h

/-- All is as it was but for some blocks; new ones may have come. -/
structure Keeps (S : List Nat) (w w' : World) : Prop where
  os : w'.os = w.os
  tape : w'.tape = w.tape
  output : w'.output = w.output
  size : w.heap.size ≤ w'.heap.size
  block : ∀ k, k < w.heap.size → k ∉ S → w'.heap[k]? = w.heap[k]?
theorem Keeps.refl (S : List Nat) (w : World) : Keeps S w w := ⟨rfl, rfl, rfl, Nat.le_refl _, fun _ _ _ => rfl⟩
theorem Keeps.trans {S T : List Nat} {a b c : World} (h : Keeps S a b) (k : Keeps T b c) (hT : ∀ x ∈ T, x ∈ S ∨ a.heap.size ≤ x) : Keeps S a c :=
  ⟨k.os.trans h.os, k.tape.trans h.tape, k.output.trans h.output, Nat.le_trans h.size k.size, fun x hx hs =>
    (k.block x (Nat.lt_of_lt_of_le hx h.size) (fun ht => by rcases hT x ht with h1 | h1; exact hs h1; omega)).trans (h.block x hx hs)⟩
theorem Keeps.mono {S T : List Nat} {a b : World} (h : Keeps S a b) (hS : ∀ x ∈ S, x ∈ T ∨ a.heap.size ≤ x) : Keeps T a b := (Keeps.refl T a).trans h hS
theorem Keeps.alloc (S : List Nat) (w : World) (o : Obj) : Keeps S w (w.alloc o) := ⟨rfl, rfl, rfl, by simp, fun k hk _ => Below.heap_alloc _ _ _ hk⟩
theorem Keeps.drew (S : List Nat) (w : World) : Keeps S w w.drew := ⟨rfl, rfl, rfl, Nat.le_refl _, fun _ _ _ => rfl⟩
theorem Keeps.drewN (S : List Nat) (w : World) (n : Nat) : Keeps S w (w.drewN n) := ⟨rfl, rfl, rfl, Nat.le_refl _, fun _ _ _ => rfl⟩
theorem Keeps.set (w : World) (G i : Nat) (v : Value) : Keeps [G] w (w.setCell ⟨G, i, none⟩ v) :=
  ⟨rfl, rfl, rfl, by simp [World.setCell], fun k _ hk => Below.heap_setCell _ _ _ k (by simpa using hk)⟩
theorem Keeps.grown {w w' : World} {row : Option Nat} (h : w.grownBy w' row) : Keeps row.toList w w' :=
  ⟨h.os, h.tape, h.output, h.size, fun k hk hs => h.block k hk (fun e => hs (by rw [← e]; simp))⟩
theorem Keeps.below {B : Nat} {w w' : World} (h : Below B w w') (S : List Nat) (hS : ∀ k, B ≤ k → k < w.heap.size → k ∈ S) : Keeps S w w' :=
  ⟨h.os, h.tape, h.output, h.size, fun k hk hs => h.block k (Nat.lt_of_not_le fun hb => hs (hS k hb hk))⟩
theorem Keeps.below' {w w' : World} (h : Below w.heap.size w w') (S : List Nat) : Keeps S w w' := Keeps.below h S fun _ h1 h2 => by omega
theorem Keeps.toBelow {S : List Nat} {w w' : World} (h : Keeps S w w') (B : Nat) (hB : B ≤ w.heap.size) (hS : ∀ x ∈ S, B ≤ x) : Below B w w' :=
  ⟨h.os, h.tape, h.output, h.size, fun k hk => h.block k (by omega) fun hs => by have := hS k hs; omega⟩
theorem Has.keeps {w w' : World} {S : List Nat} {G : Nat} {t : TypeId} {cs : List Value} (h : Has w G t cs) (k : Keeps S w w') (hG : G ∉ S) : Has w' G t cs := (k.block G h.lt hG).trans h

/-- What a row's own block is. -/
theorem own_shape {w : World} {base : Nat} {e : TypeId} {size : Nat} {v : Value} {n : Nat} {xs : List Value} (h : w.ownsRow base e size v n xs) :
    (v = .slice none 0 0 ∧ n = 0 ∧ xs = []) ∨ ∃ g cap cs, v = .slice (some ⟨g, 0, none⟩) n cap ∧ base ≤ g ∧ Has w g e cs ∧ n ≤ cap ∧ cap ≤ maxLen ∧ cs.length = cap * size ∧ cs.take (n * size) = xs := by
  obtain ⟨h1, h2⟩ := h
  rcases h2 with ⟨rfl, he⟩ | ⟨g, cap, cur, rfl, hb, hgb, hr1, hr2, hr3, hr4⟩
  · subst he
    simp at h1
    exact .inl ⟨rfl, rfl, h1⟩
  · exact .inr ⟨g, cap, cur.toList, rfl, hb, by unfold Has; simpa using hgb, hr1, hr2, by simpa using hr3, hr4⟩
theorem own_of {w : World} {base : Nat} {e : TypeId} {size : Nat} {n cap g : Nat} {cs xs : List Value} (hb : base ≤ g) (hg : Has w g e cs) (hn : n ≤ cap) (hc : cap ≤ maxLen) (hl : cs.length = cap * size) (ht : cs.take (n * size) = xs) :
    w.ownsRow base e size (.slice (some ⟨g, 0, none⟩) n cap) n xs := by
  refine ⟨?_, .inr ⟨g, cap, cs.toArray, rfl, hb, hg, hn, hc, by simpa using hl, by simpa using ht⟩⟩
  rw [← ht, List.length_take, hl]
  exact Nat.min_eq_left (Nat.mul_le_mul_right _ hn)
theorem own_cell {w : World} {base : Nat} {e : TypeId} {size : Nat} {g n cap : Nat} {xs : List Value} (h : w.ownsRow base e size (.slice (some ⟨g, 0, none⟩) n cap) n xs) (j : Nat) (hj : j < xs.length) : w.cell? ⟨g, j, none⟩ = some xs[j] := by
  rcases own_shape h with ⟨h1, _⟩ | ⟨g', cap', cs, h1, _, hh, _, _, _, ht⟩
  · cases h1
  · injection h1 with h2 h3 h4
    injection h2 with h2
    injection h2 with h5
    subst h5
    rw [hh.cell]
    have h9 : xs[j]? = some xs[j] := List.getElem?_eq_getElem hj
    obtain ⟨x, hx⟩ : ∃ x, xs[j] = x := ⟨_, rfl⟩
    rw [hx] at h9 ⊢
    rw [← ht] at h9
    rw [List.getElem?_take] at h9
    split at h9
    · exact h9
    · cases h9
theorem own_has {w : World} {base : Nat} {e : TypeId} {size : Nat} {g n cap : Nat} {xs : List Value} (h : w.ownsRow base e size (.slice (some ⟨g, 0, none⟩) n cap) n xs) : base ≤ g ∧ ∃ cs, Has w g e cs := by
  rcases own_shape h with ⟨h1, _⟩ | ⟨g', cap', cs, h1, hb, hh, _⟩
  · cases h1
  · injection h1 with h2 h3 h4
    injection h2 with h2
    injection h2 with h5
    subst h5
    exact ⟨hb, cs, hh⟩
/-- The first m of a row. -/
theorem own_take {w : World} {base : Nat} {e : TypeId} {size : Nat} {g n cap m : Nat} {xs : List Value} (h : w.ownsRow base e size (.slice (some ⟨g, 0, none⟩) n cap) n xs) (hm : m ≤ n) :
    w.ownsRow base e size (.slice (some ⟨g, 0, none⟩) m cap) m (xs.take (m * size)) := by
  rcases own_shape h with ⟨h1, _⟩ | ⟨g', cap', cs, h1, hb, hh, hn, hc, hl, ht⟩
  · cases h1
  · injection h1 with h2 h3 h4
    injection h2 with h2
    injection h2 with h5
    subst h5 h4
    refine own_of hb hh (by omega) hc hl ?_
    rw [← ht, List.take_take, Nat.min_eq_left (Nat.mul_le_mul_right _ hm)]
theorem own_keeps {w w' : World} {S : List Nat} {base : Nat} {e : TypeId} {size : Nat} {v : Value} {n : Nat} {xs : List Value} (h : w.ownsRow base e size v n xs) (k : Keeps S w w') (hS : ∀ g, v.ownBlock = some g → g ∉ S) : w'.ownsRow base e size v n xs := by
  rcases own_shape h with ⟨rfl, rfl, rfl⟩ | ⟨g, cap, cs, rfl, hb, hh, hn, hc, hl, ht⟩
  · exact World.ownsRow_nil _ _ _ _
  · exact own_of hb (hh.keeps k (hS g rfl)) hn hc hl ht
theorem own_drew {w : World} {base : Nat} {e : TypeId} {size : Nat} {v : Value} {n : Nat} {xs : List Value} (h : w.ownsRow base e size v n xs) : w.drew.ownsRow base e size v n xs := h.drew
theorem own_ne {w : World} {base : Nat} {e t : TypeId} {size : Nat} {v : Value} {n : Nat} {xs cs : List Value} {G : Nat} (h : w.ownsRow base e size v n xs) (hG : Has w G t cs) (hte : t ≠ e) : ∀ g, v.ownBlock = some g → g ≠ G := by
  intro g hg
  rcases own_shape h with ⟨rfl, _⟩ | ⟨g', cap, cs', rfl, hb, hh, _⟩
  · simp [Value.ownBlock] at hg
  · have : g' = g := by simpa [Value.ownBlock] using hg
    subst this
    exact hh.ne hG (Ne.symm hte)
theorem own_lt {w : World} {base : Nat} {e : TypeId} {size : Nat} {v : Value} {n : Nat} {xs : List Value} (h : w.ownsRow base e size v n xs) : ∀ g, v.ownBlock = some g → base ≤ g ∧ g < w.heap.size := by
  intro g hg
  rcases own_shape h with ⟨rfl, _⟩ | ⟨g', cap, cs', rfl, hb, hh, _⟩
  · simp [Value.ownBlock] at hg
  · have : g' = g := by simpa [Value.ownBlock] using hg
    subst this
    exact ⟨hb, hh.lt⟩
theorem own_base {w : World} {base base' : Nat} {e : TypeId} {size : Nat} {v : Value} {n : Nat} {xs : List Value} (h : w.ownsRow base e size v n xs) (hb : base' ≤ base) : w.ownsRow base' e size v n xs := by
  rcases own_shape h with ⟨rfl, rfl, rfl⟩ | ⟨g, cap, cs, rfl, hb', hh, hn, hc, hl, ht⟩
  · exact World.ownsRow_nil _ _ _ _
  · exact own_of (by omega) hh hn hc hl ht

/-- All is as it was but for blocks of some types; new ones may have come. -/
structure KeepsT (ts : List TypeId) (w w' : World) : Prop where
  os : w'.os = w.os
  tape : w'.tape = w.tape
  output : w'.output = w.output
  size : w.heap.size ≤ w'.heap.size
  block : ∀ k, k < w.heap.size → (∀ cs t fr, w.heap[k]? = some (.cells cs t fr) → t ∉ ts) → w'.heap[k]? = w.heap[k]?
theorem KeepsT.refl (ts : List TypeId) (w : World) : KeepsT ts w w := ⟨rfl, rfl, rfl, Nat.le_refl _, fun _ _ _ => rfl⟩
theorem KeepsT.trans {ts us : List TypeId} {a b c : World} (h : KeepsT ts a b) (k : KeepsT us b c) (hu : ∀ x ∈ us, x ∈ ts) : KeepsT ts a c :=
  ⟨k.os.trans h.os, k.tape.trans h.tape, k.output.trans h.output, Nat.le_trans h.size k.size, fun x hx ht => by
    have e := h.block x hx ht
    exact (k.block x (Nat.lt_of_lt_of_le hx h.size) (fun cs t fr hc hm => ht cs t fr (e ▸ hc) (hu t hm))).trans e⟩
theorem KeepsT.mono {ts us : List TypeId} {a b : World} (h : KeepsT us a b) (hu : ∀ x ∈ us, x ∈ ts) : KeepsT ts a b := (KeepsT.refl ts a).trans h hu
theorem KeepsT.alloc {ts : List TypeId} {a w : World} (h : KeepsT ts a w) (o : Obj) : KeepsT ts a (w.alloc o) :=
  h.trans (us := []) ⟨rfl, rfl, rfl, by simp, fun k hk _ => Below.heap_alloc _ _ _ hk⟩ (by simp)
theorem KeepsT.drew {ts : List TypeId} {a w : World} (h : KeepsT ts a w) : KeepsT ts a w.drew := h.trans (us := []) ⟨rfl, rfl, rfl, Nat.le_refl _, fun _ _ _ => rfl⟩ (by simp)
theorem KeepsT.drewN {ts : List TypeId} {a w : World} (h : KeepsT ts a w) (n : Nat) : KeepsT ts a (w.drewN n) := h.trans (us := []) ⟨rfl, rfl, rfl, Nat.le_refl _, fun _ _ _ => rfl⟩ (by simp)
theorem KeepsT.set {ts : List TypeId} {a w : World} (h : KeepsT ts a w) {G : Nat} {t : TypeId} {cs : List Value} (hG : Has w G t cs) (ht : t ∈ ts ∨ a.heap.size ≤ G) (i : Nat) (v : Value) : KeepsT ts a (w.setCell ⟨G, i, none⟩ v) :=
  ⟨h.os, h.tape, h.output, by simpa [World.setCell] using h.size, fun k hk hs => by
    have e := h.block k hk hs
    have hne : k ≠ G := by
      rintro rfl
      rcases ht with ht | ht
      · exact hs _ _ _ (e.symm.trans hG) ht
      · omega
    exact (Below.heap_setCell _ _ _ k hne).trans e⟩
theorem KeepsT.grown {ts : List TypeId} {a w w' : World} (h : KeepsT ts a w) {row : Option Nat} (hg : w.grownBy w' row) (hr : ∀ g, row = some g → a.heap.size ≤ g ∨ ∃ t cs, Has w g t cs ∧ t ∈ ts) : KeepsT ts a w' :=
  ⟨hg.os.trans h.os, hg.tape.trans h.tape, hg.output.trans h.output, Nat.le_trans h.size hg.size, fun k hk hs => by
    have e := h.block k hk hs
    refine (hg.block k (Nat.lt_of_lt_of_le hk h.size) fun he => ?_).trans e
    rcases hr k he.symm with h1 | ⟨t, cs, h1, h2⟩
    · omega
    · exact hs _ _ _ (e.symm.trans h1) h2⟩
theorem KeepsT.below {w w' : World} (h : Below w.heap.size w w') (ts : List TypeId) : KeepsT ts w w' := ⟨h.os, h.tape, h.output, h.size, fun k hk _ => h.block k hk⟩
theorem Has.keepsT {w w' : World} {ts : List TypeId} {G : Nat} {t : TypeId} {cs : List Value} (h : Has w G t cs) (k : KeepsT ts w w') (ht : t ∉ ts) : Has w' G t cs :=
  (k.block G h.lt fun cs' t' fr' h' => by
    rw [show w.heap[G]? = _ from h] at h'
    injection h' with h'
    injection h' with _ h' _
    exact h' ▸ ht).trans h
theorem own_keepsT {w w' : World} {ts : List TypeId} {base : Nat} {e : TypeId} {size : Nat} {v : Value} {n : Nat} {xs : List Value} (h : w.ownsRow base e size v n xs) (k : KeepsT ts w w') (he : e ∉ ts) : w'.ownsRow base e size v n xs := by
  rcases own_shape h with ⟨rfl, rfl, rfl⟩ | ⟨g, cap, cs, rfl, hb, hh, hn, hc, hl, ht⟩
  · exact World.ownsRow_nil _ _ _ _
  · exact own_of hb (hh.keepsT k he) hn hc hl ht
theorem own_row {w : World} {base : Nat} {e : TypeId} {size : Nat} {v : Value} {n : Nat} {xs : List Value} (h : w.ownsRow base e size v n xs) : ∀ g, v.ownBlock = some g → ∃ cs, Has w g e cs := by
  intro g hg
  rcases own_shape h with ⟨rfl, _⟩ | ⟨g', cap, cs', rfl, hb, hh, _⟩
  · simp [Value.ownBlock] at hg
  · have : g' = g := by simpa [Value.ownBlock] using hg
    subst this
    exact ⟨_, hh⟩

theorem Has.below {B : Nat} {w w' : World} {G : Nat} {t : TypeId} {cs : List Value} (h : Has w G t cs) (hb : Below B w w') (hG : G < B) : Has w' G t cs := (hb.block G hG).trans h
/-- A quiet call, by a contract that leaves the world alone (the world on the left). -/
theorem quiet_left {P : Program} {f : FuncId} {args : Array Value} {w : World} {n : Nat} {v : Value}
    (h : Calls P f args (w.drewN n) fun e w' => e = .returned v ∧ w.drewN n = w') : Calls P f args (w.drewN n) fun e w'' => e = .returned v ∧ ∃ m, w'' = w.drewN m :=
  h.mono fun _ _ ⟨he, hm⟩ => ⟨he, n, hm.symm⟩
theorem quiet_add_left {P : Program} {f : FuncId} {args : Array Value} {w : World} {a n : Nat} {v : Value}
    (h : Calls P f args (w.drewN (a + n)) fun e w' => e = .returned v ∧ w.drewN (a + n) = w') :
    Calls P f args (w.drewN (a + n)) fun e w'' => e = .returned v ∧ ∃ m, w'' = w.drewN (a + m) :=
  h.mono fun _ _ ⟨he, hm⟩ => ⟨he, n, hm.symm⟩

/-- append onto an owned slice, as one step of a region that draws its order. -/
theorem step_append_own {P : Program} {ops : Array Oper} {o : Oper} {a : Act} {w : World} {K : Act → World → Prop} {Q : Exit → Act → World → Prop} {E : Prop}
    (hg : o.guard = none) (s x : Operand) (t : TypeId) (hop : o.op = Op.call { callee := Callee.builtin Builtin.append, args := #[s, x], argTypes := #[t, t] })
    (v' : Value) (w' : World) (v u : Value) (hs : a.eval s = v) (hx : a.eval x = u)
    (hrun : (Builtin.append_ #[t, t] o.type #[v, u]).run P w = .ok v' w')
    (hK : K (a.put o.dst v') w') :
    if Region.wanted o (yielded ops a.tmps) = true then Oper.wp P o a w K Q else E := by
  have hw : Region.wanted o (yielded ops a.tmps) = true := by simp [Region.wanted, hg]
  rw [if_pos hw]
  subst hs hx
  unfold Oper.wp
  simp [execOp, hop, resolve, invoke, builtin, hrun, Result.andThen]
  exact hK
end ObjM
end Go.Proofs.YtmdkocegnbcgmaaGreatDoor
