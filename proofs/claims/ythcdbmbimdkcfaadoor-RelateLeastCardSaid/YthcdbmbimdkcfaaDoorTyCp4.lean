/- dup.copier.copy: a type's lists copied, those that are still to do in a list. -/
import Derived.Test.YthcdbmbimdkcfaaDoorTyCp3
import Derived.Test.YthcdbmbimdkcfaaDoorTyCheck
import Derived.Deep.RegionHeld3
import Derived.Deep.DeepCutAuto
import Derived.LoopTactic
import Derived.Test.YthcdbmbimdkcfaaDoorRegEW
namespace Go.Proofs.YthcdbmbimdkcfaaDoor
open Go.RowKit ObjM RoundM
namespace TyD
open LexD (WTab)

def sumF (r : Nat) (l : List Ty) : Nat := l.foldl (fun n a => n + sizeF r a) 0
theorem sumF_cons (r : Nat) (a : Ty) (l : List Ty) : sumF r (a :: l) = sizeF r a + sumF r l := by
  unfold sumF
  rw [List.foldl_cons, foldl_add (sizeF r)]
  omega
theorem size_sumF (r : Nat) (k : Int) (ns : List ByteArray) (ls : List Ty) : sizeF (r + 1) (.mk k ns ls) = 1 + sumF r ls := by
  rw [sizeF, foldl_add]
  rfl
theorem sumF_sum (r : Nat) : ∀ l : List Ty, sumF r l = (l.map (sizeF r)).sum
  | [] => rfl
  | a :: l => by rw [sumF_cons, sumF_sum r l]; rfl
theorem sum_less (r : Nat) : ∀ l : List Ty, (l.map (sizeF r)).sum = l.length + (l.map fun t => sizeF r t - 1).sum
  | [] => rfl
  | a :: l => by
    have := sum_less r l
    have := sizeF_pos r a
    simp only [List.map_cons, List.sum_cons, List.length_cons]
    omega
theorem parts_names {k : Int} {ns : List ByteArray} {ls : List Ty} (h : partsB k ns ls = true) : ns.length ≤ ls.length := by
  unfold partsB at h
  repeat' split at h
  all_goals
    simp only [Bool.and_eq_true, decide_eq_true_eq] at h
    omega
theorem kids_owe {va : Value} {r n₀ : Nat} {W : World} {xs : List (Ty × Value × Value)} (h : NewArgs n₀ W va xs) : owe (kidsOf va r xs) = ((xs.map (·.1)).map (sizeF r)).sum := by
  rcases h with ⟨rfl, rfl⟩ | ⟨g, ds, rfl, -⟩
  · rfl
  · unfold owe
    rw [kidsOf_some]
    have := zip_sum (f := sizeF r) g r xs 0
    rw [← this]
    congr 1
    rw [List.map_map, List.map_map]
    rfl
theorem kids_due {va : Value} {r n₀ : Nat} {W : World} {xs : List (Ty × Value × Value)} (h : NewArgs n₀ W va xs) : due (kidsOf va r xs) = ((xs.map (·.1)).map fun t => sizeF r t - 1).sum := by
  rcases h with ⟨rfl, rfl⟩ | ⟨g, ds, rfl, -⟩
  · rfl
  · unfold due
    rw [kidsOf_some]
    have := zip_sum (f := fun t => sizeF r t - 1) g r xs 0
    rw [← this]
    congr 1
    rw [List.map_map, List.map_map]
    rfl
theorem infoPtrT : (Tryd.prog.info? 60).map (fun i => (i.zero, i.size, i.bytes)) = some (some (.pointer none), 1, 8) := by kernel_rfl
theorem owe_len : ∀ l : List Pend, l.length ≤ owe l
  | [] => Nat.zero_le _
  | p :: l => by
    have := owe_len l
    have := sizeF_pos p.r p.t
    simp only [owe, List.map_cons, List.sum_cons, List.length_cons] at *
    omega
theorem app_ptr {W : World} {B : Nat} {v : Value} {l : List Pend} (p : Pend) (h : W.ownsRow B 60 1 v l.length (l.map Pend.ptr)) (hn : l.length ≤ 1000000) (hB : B ≤ W.heap.size) :
    ∃ v2 W2, (Builtin.append_ #[61, 61] 61 #[v, .slice (some ⟨W.heap.size, 0, none⟩) 1 1]).run Tryd.prog (W.alloc (.cells #[.pointer (some ⟨p.blk, p.off, none⟩)] 60)) = .ok v2 W2 ∧ W2.ownsRow B 60 1 v2 (l ++ [p]).length ((l ++ [p]).map Pend.ptr) ∧ (∀ k, k < W.heap.size → v.ownBlock ≠ some k → W2.heap[k]? = W.heap[k]?) ∧ Keeps v.ownBlock.toList W W2 ∧ (v2.ownBlock = v.ownBlock ∨ ∃ g, v2.ownBlock = some g ∧ W.heap.size ≤ g) := by
  obtain ⟨i0, hi, hz0, hz1, hz2⟩ := info_parts infoPtrT
  have hc : (W.alloc (.cells #[.pointer (some ⟨p.blk, p.off, none⟩)] 60)).cell? ⟨W.heap.size, 0, none⟩ = some (.pointer (some ⟨p.blk, p.off, none⟩)) := (Has.new W 60 [.pointer (some ⟨p.blk, p.off, none⟩)]).cell 0
  obtain ⟨v2, w5, hrun, ho, hg, -, hv5⟩ := run_append_own_at (P := Tryd.prog) (w := W.alloc (.cells #[.pointer (some ⟨p.blk, p.off, none⟩)] 60)) B 61 61 60 i0 (.pointer none) 1 8 Tryd.underlying61 hi hz0 hz1 hz2 rfl (by decide) v _ _ (h.alloc _) ⟨W.heap.size, 0, none⟩ 1 1 [.pointer (some ⟨p.blk, p.off, none⟩)] rfl
    (fun k u hk => by
      have hk1 := (List.getElem?_eq_some_iff.1 hk).1
      simp at hk1
      subst hk1
      simp at hk
      subst hk
      rw [addr_at]
      exact hc)
    (fun u hu => by simp at hu; rw [hu]; rfl) (by unfold maxLen; omega) (by omega) (by simp; omega)
  have K : Keeps v.ownBlock.toList W w5 := (Keeps.alloc _ W _).trans (Keeps.grown hg) fun x hx => .inl hx
  refine ⟨v2, w5, hrun, by simpa [Pend.ptr] using ho, fun k hk hne => K.block k hk (fun hm => hne (Option.mem_toList.1 hm)), K, ?_⟩
  rcases hv5 with e | e
  · exact .inl e
  · exact .inr ⟨_, e, by simp⟩
/-- What a copy leaves. -/
def CopyOk (C : Nat) (w : World) (t : Ty) (e : Ending) (w' : World) : Prop :=
  ∃ vn va lf, e = .returned (.agg #[.int .i64 t.kind, vn, va]) ∧ Snug w' (fun k => w.heap.size ≤ k ∧ k < w'.heap.size) vn va t ∧ Keeps [C] w w' ∧ Has w' C 47 [.int .i64 (lf : Int), .bool false, .map none, .map none]
/-- Where a copy stands. -/
structure Core (w0 w W : World) (C : Nat) (t : Ty) (l : List Pend) (D : Nat → Prop) (lf : Nat) : Prop where
  dlow : ∀ k, D k → w.heap.size ≤ k ∧ k ≠ w.heap.size + 1
  comp : Comp W w.heap.size t D l
  pend : ∀ p ∈ l, PendAt w0 W w.heap.size p
  keeps : Keeps [C] w W
  cp : Has W C 47 [.int .i64 (lf : Int), .bool false, .map none, .map none]
  res : Has W (w.heap.size + 1) 25 [.int .i64 0, .slice none 0 0, .slice none 0 0]
  clt : C < w.heap.size
  due : 72 * due l ≤ lf
  lfb : lf ≤ 1000000000
  bel : Below w0.heap.size w0 w
  clo : w0.heap.size ≤ C
/-- .. and what is still to do is in the row v. -/
structure CopyAt (w0 w wr : World) (C : Nat) (t : Ty) (v : Value) (l : List Pend) (D : Nat → Prop) (lf : Nat) : Prop where
  core : Core w0 w wr C t l D lf
  row : wr.ownsRow w.heap.size 60 1 v l.length (l.map Pend.ptr)
  far : ∀ g, v.ownBlock = some g → ¬ D g ∧ g ≠ w.heap.size + 1
theorem Core.agree {w0 w W W' : World} {C : Nat} {t : Ty} {l : List Pend} {D : Nat → Prop} {lf : Nat} (h : Core w0 w W C t l D lf) (hs : W.heap.size ≤ W'.heap.size) (hk : Keeps [C] w W') (hag : ∀ k, D k ∨ k = C ∨ k = w.heap.size + 1 → W'.heap[k]? = W.heap[k]?) : Core w0 w W' C t l D lf :=
  ⟨h.dlow, h.comp.agree hs fun k hd => hag k (.inl hd), fun p hp => (h.pend p hp).agree (hag _ (.inl (h.comp.pd p hp))), hk, (hag C (.inr (.inl rfl))).trans h.cp, (hag _ (.inr (.inr rfl))).trans h.res, h.clt, h.due, h.lfb, h.bel, h.clo⟩
theorem Core.below {w0 w W : World} {C : Nat} {t : Ty} {l : List Pend} {D : Nat → Prop} {lf : Nat} (h : Core w0 w W C t l D lf) : Below w0.heap.size w0 W := h.bel.trans (h.keeps.toBelow _ h.bel.size (by have := h.clo; simpa using this))
/-- One's names are copied, and its arguments' row. -/
structure Laid (W W9 : World) (C pb po : Nat) (ds : List Value) (ns : List ByteArray) (xs : List (Ty × Value × Value)) (left lf : Nat) (vn va : Value) : Prop where
  names : NewNames W.heap.size W9 vn ns
  args : NewArgs W.heap.size W9 va xs
  diff : ∀ g, vn.ownBlock = some g → va.ownBlock ≠ some g
  keeps : Keeps [C, pb] W W9
  has : Has W9 pb 25 ((ds.set (po + 1) vn).set (po + 2) va)
  cp : Has W9 C 47 [.int .i64 (lf : Int), .bool false, .map none, .map none]
  paid : left ≤ lf + 16 * ns.length + 56 * xs.length ∧ lf ≤ left
theorem new_low {W W9 : World} {vn va : Value} {ns : List ByteArray} {xs : List (Ty × Value × Value)} (hn : NewNames W.heap.size W9 vn ns) (ha : NewArgs W.heap.size W9 va xs) : ∀ k, vn.ownBlock = some k ∨ va.ownBlock = some k → W.heap.size ≤ k ∧ k < W9.heap.size := by
  intro k hk
  rcases hk with hk | hk
  · rcases hn with ⟨-, rfl⟩ | ⟨g, ds, rfl, hg, hh, -⟩
    · cases hk
    · injection hk with hk
      exact hk ▸ ⟨hg, hh.lt⟩
  · rcases ha with ⟨-, rfl⟩ | ⟨g, ds, rfl, hg, hh, -⟩
    · cases hk
    · injection hk with hk
      exact hk ▸ ⟨hg, hh.lt⟩
theorem Core.step {w0 w W W9 : World} {C pb po r : Nat} {t : Ty} {kd : Int} {ns : List ByteArray} {ts : List Ty} {l : List Pend} {D : Nat → Prop} {left lf : Nat} {pvn pva vn va : Value} {ds : List Value} {xs : List (Ty × Value × Value)} (h : Core w0 w W C t (l ++ [⟨pb, po, r + 1, .mk kd ns ts, pvn, pva⟩]) D left) (hds : Has W pb 25 ds) (hdl : po + 2 < ds.length)
    (hxs : xs.map (·.1) = ts) (hty : ∀ x ∈ xs, TyAt w0 x.2.1 x.2.2 x.1) (hv : ∀ x ∈ xs, validB r x.1 = true) (hnl : ns.length ≤ ts.length) (hsm : ts.length ≤ 1000000) (hL : Laid W W9 C pb po ds ns xs left lf vn va) :
    Core w0 w W9 C t (l ++ kidsOf va r xs) (fun k => D k ∨ vn.ownBlock = some k ∨ va.ownBlock = some k) lf := by
  have hw := h.keeps.size
  have hpb : w.heap.size ≤ pb := (h.pend _ (List.mem_append_right _ (List.mem_singleton.2 rfl))).low
  have hDp : D pb := h.comp.pd _ (List.mem_append_right _ (List.mem_singleton.2 rfl))
  have hlow := new_low hL.names hL.args
  have hxl : xs.length = ts.length := by rw [← hxs, List.length_map]
  have hcell : ∀ k i, D k → (k = pb → i ≠ po + 1 ∧ i ≠ po + 2) → W9.cell? ⟨k, i, none⟩ = W.cell? ⟨k, i, none⟩ := by
    intro k i hk hne
    by_cases e : k = pb
    · subst e
      rw [hL.has.cell, hds.cell, List.getElem?_set_ne (by have := (hne rfl).2; omega), List.getElem?_set_ne (by have := (hne rfl).1; omega)]
    · have hkC : k ≠ C := by have := (h.dlow k hk).1; have := h.clt; omega
      exact cell_of_heap (hL.keeps.block k (h.comp.low k hk) (by simp; omega)) i
  have hsz := due_snoc l ⟨pb, po, r + 1, .mk kd ns ts, pvn, pva⟩
  have hs1 : sizeF (r + 1) (.mk kd ns ts) = 1 + sumF r ts := size_sumF r kd ns ts
  have hk := kids_due (r := r) hL.args
  rw [hxs] at hk
  have hsl := sum_less r ts
  rw [← sumF_sum] at hsl
  simp only at hsz
  refine ⟨?_, ?_, ?_, ?_, hL.cp, ?_, h.clt, ?_, by have := hL.paid; have := h.lfb; omega, h.bel, h.clo⟩
  · intro k hk2
    rcases hk2 with hk2 | hk2
    · exact h.dlow k hk2
    · have := hlow k hk2
      have := h.res.lt
      omega
  · refine h.comp.step (p := ⟨pb, po, r + 1, .mk kd ns ts, pvn, pva⟩) hxs ⟨by simp only [Ty.names]; omega, by simp only [Ty.args]; omega⟩ hL.keeps.size hL.names hL.args hL.diff hcell ?_ ?_
    · show W9.cell? ⟨pb, po + 1, none⟩ = some vn
      rw [hL.has.cell, List.getElem?_set_ne (by omega), List.getElem?_set_self (by omega)]
    · show W9.cell? ⟨pb, po + 2, none⟩ = some va
      rw [hL.has.cell, List.getElem?_set_self (by simp; omega)]
  · intro q hq
    rcases List.mem_append.1 hq with hq | hq
    · have hq0 := h.pend q (List.mem_append_left _ hq)
      obtain ⟨es, h1, h2, h3, h4, h5⟩ := hq0.has
      refine ⟨hq0.low, ?_, hq0.ty, hq0.valid⟩
      by_cases e : q.blk = pb
      · rw [e] at h1
        have e2 : es = ds := by
          have h1' : W.heap[pb]? = _ := h1
          rw [show W.heap[pb]? = _ from hds] at h1'
          injection h1' with h1'
          injection h1' with h1' _ _
          simpa using h1'.symm
        subst e2
        have hap := (List.pairwise_append.1 h.comp.apart).2.2 q hq _ (List.mem_singleton.2 rfl) e
        simp only at hap
        rw [e]
        refine ⟨_, hL.has, by simpa using h2, ?_, ?_, ?_⟩
        · rw [List.getElem?_set_ne (by omega), List.getElem?_set_ne (by omega)]; exact h3
        · rw [List.getElem?_set_ne (by omega), List.getElem?_set_ne (by omega)]; exact h4
        · rw [List.getElem?_set_ne (by omega), List.getElem?_set_ne (by omega)]; exact h5
      · have hC2 : q.blk ≠ C := by have := hq0.low; have := h.clt; omega
        exact ⟨es, (hL.keeps.block _ (h.comp.low _ (h.comp.pd q (List.mem_append_left _ hq))) (by simp; omega)).trans h1, h2, h3, h4, h5⟩
    · exact kidsOf_pend hL.args hw hty hv q hq
  · exact h.keeps.trans hL.keeps (fun x hx => by
      simp at hx
      rcases hx with rfl | rfl
      · exact .inl (by simp)
      · exact .inr hpb)
  · exact h.res.keeps hL.keeps (by have := (h.dlow pb hDp).2; have := h.clt; simp; omega)
  · rw [due_app, hk]
    have hdu := h.due
    have := hL.paid
    rw [hsz, hs1] at hdu
    omega
/-- The arguments' row is laid. -/
def ArgedAt (wx wy : World) (C left lf : Nat) (xs : List (Ty × Value × Value)) (va : Value) : Prop :=
  NewArgs wx.heap.size wy va xs ∧ (∃ a c, va = .slice a xs.length c) ∧ Keeps [C] wx wy ∧ Has wy C 47 [.int .i64 (lf : Int), .bool false, .map none, .map none] ∧ left ≤ lf + 56 * xs.length ∧ lf ≤ left
/-- The names are copied. -/
def NamedAt (wr wx : World) (C pb po : Nat) (ds : List Value) (ns : List ByteArray) (left lf : Nat) (vn : Value) : Prop :=
  NewNames wr.heap.size wx vn ns ∧ (∃ a c, vn = .slice a ns.length c) ∧ Keeps [C, pb] wr wx ∧ Has wx pb 25 (ds.set (po + 1) vn) ∧ Has wx C 47 [.int .i64 (lf : Int), .bool false, .map none, .map none] ∧ left ≤ lf + 16 * ns.length ∧ lf ≤ left
theorem laid_of {wr wx wy : World} {C pb po lf lf2 lf3 : Nat} {ds : List Value} {ns : List ByteArray} {xs : List (Ty × Value × Value)} {vn va : Value} (hdC : pb ≠ C) (hpb : pb < wr.heap.size) (hC : C < wr.heap.size) (HN : NamedAt wr wx C pb po ds ns lf lf2 vn) (HA : ArgedAt wx wy C lf2 lf3 xs va) :
    Laid wr (wy.setCell ⟨pb, po + 2, none⟩ va) C pb po ds ns xs lf lf3 vn va := by
  obtain ⟨n1, -, n3, n4, n5, n6, n7⟩ := HN
  obtain ⟨a1, -, a3, a4, a5, a6⟩ := HA
  have hs1 := n3.size
  have kS := Keeps.set wy pb (po + 2) va
  refine ⟨?_, ?_, ?_, (n3.trans a3 (by simp)).trans kS (by simp), (n4.keeps a3 (by simpa using hdC)).set (po + 2) va, a4.keeps kS (by simp; omega), by omega, by omega⟩
  · rcases n1 with h | ⟨g, es, e, hg, hh, ht⟩
    · exact .inl h
    · exact .inr ⟨g, es, e, hg, (hh.keeps a3 (by simp; omega)).keeps kS (by simp; omega), ht⟩
  · rcases a1 with h | ⟨g, es, e, hg, hh, ht⟩
    · exact .inl h
    · exact .inr ⟨g, es, e, by omega, hh.keeps kS (by simp; omega), ht⟩
  · intro g hg hva
    rcases n1 with ⟨-, rfl⟩ | ⟨g1, es, rfl, hg1, hh, -⟩
    · cases hg
    · rcases a1 with ⟨-, rfl⟩ | ⟨g2, es2, rfl, hg2, -⟩
      · cases hva
      · injection hg with hg
        injection hva with hva
        have := hh.lt
        simp only at hg hva
        omega
theorem row_shape {w : World} {B n : Nat} {t : TypeId} {v : Value} {xs : List Value} (h : w.ownsRow B t 1 v n xs) : ∃ a c, v = .slice a n c := by
  rcases own_shape h with ⟨rfl, rfl, -⟩ | ⟨g, cap, cs, rfl, -⟩
  · exact ⟨_, _, rfl⟩
  · exact ⟨_, _, rfl⟩
theorem row_last {w : World} {B : Nat} {t : TypeId} {v : Value} {l : List Pend} {p : Pend} (h : w.ownsRow B t 1 v (l ++ [p]).length ((l ++ [p]).map Pend.ptr)) : ∃ g c, v = .slice (some ⟨g, 0, none⟩) (l.length + 1) c ∧ l.length + 1 ≤ c ∧ w.cell? ⟨g, l.length, none⟩ = some p.ptr ∧ ∃ v', v' = Value.slice (some ⟨g, 0, none⟩) l.length c ∧ w.ownsRow B t 1 v' l.length (l.map Pend.ptr) := by
  have hl : (l ++ [p]).length = l.length + 1 := by simp
  rw [hl] at h
  rcases own_shape h with ⟨-, h2, -⟩ | ⟨g, cap, cs, rfl, hb, hh, hnc, hcm, hcl, htk⟩
  · omega
  · refine ⟨g, cap, rfl, hnc, ?_, _, rfl, ?_⟩
    · rw [own_cell h l.length (by simp)]
      simp
    · have := own_take h (m := l.length) (by omega)
      rw [Nat.mul_one, ← List.map_take, List.take_left] at this
      exact this
theorem take_snoc {α : Type} {l : List α} {k : Nat} {x : α} (h : l[k]? = some x) : l.take (k + 1) = l.take k ++ [x] := by
  rw [List.take_add_one, h]
  rfl
/-- The row of what is to do, while the arguments are put behind. -/
structure KidRow (w wz wl : World) (C g5 : Nat) (D2 : Nat → Prop) (v : Value) (m : List Pend) : Prop where
  row : wl.ownsRow w.heap.size 60 1 v m.length (m.map Pend.ptr)
  far : ∀ g, v.ownBlock = some g → ¬ D2 g ∧ g ≠ w.heap.size + 1
  keeps : Keeps [g5] wz wl
  own : v.ownBlock = some g5 ∨ ∃ g, v.ownBlock = some g ∧ wz.heap.size ≤ g
theorem KidRow.push {w wz wl : World} {C g5 : Nat} {D2 : Nat → Prop} {v : Value} {m : List Pend} (h : KidRow w wz wl C g5 D2 v m) (p : Pend) (hm : m.length ≤ 1000000) (hw : w.heap.size + 1 < wz.heap.size) (hD : ∀ k, D2 k → k < wz.heap.size) :
    ∃ v2 W2, (Builtin.append_ #[61, 61] 61 #[v, .slice (some ⟨wl.heap.size, 0, none⟩) 1 1]).run Tryd.prog (wl.alloc (.cells #[.pointer (some ⟨p.blk, p.off, none⟩)] 60)) = .ok v2 W2 ∧ KidRow w wz W2 C g5 D2 v2 (m ++ [p]) := by
  have hsz := h.keeps.size
  obtain ⟨v2, W2, hrun, ho, -, hk, hv⟩ := app_ptr p h.row hm (by omega)
  refine ⟨v2, W2, hrun, ho, ?_, ?_, ?_⟩
  · rcases hv with e | ⟨g, e, hg⟩
    · rw [e]
      exact h.far
    · rw [e]
      intro g' hg'
      injection hg' with hg'
      subst hg'
      exact ⟨fun hd => by have := hD _ hd; omega, by omega⟩
  · refine h.keeps.trans hk (fun x hx => ?_)
    rw [Option.mem_toList] at hx
    rcases h.own with e | ⟨g, e, hg⟩
    · rw [e] at hx
      injection hx with hx
      subst hx
      exact .inl (by simp)
    · rw [e] at hx
      injection hx with hx
      subst hx
      exact .inr hg
  · rcases hv with e | ⟨g, e, hg⟩
    · rw [e]
      exact h.own
    · exact .inr ⟨g, e, by omega⟩
theorem CopyAt.kids {w0 w wz wl : World} {C g5 lf : Nat} {t : Ty} {v : Value} {m : List Pend} {D2 : Nat → Prop} (h : Core w0 w wz C t m D2 lf) (hk : KidRow w wz wl C g5 D2 v m) (h5 : g5 ≠ C ∧ w.heap.size ≤ g5 ∧ ¬ D2 g5 ∧ g5 ≠ w.heap.size + 1) : CopyAt w0 w wl C t v m D2 lf := by
  refine ⟨h.agree hk.keeps.size (h.keeps.trans hk.keeps (fun x hx => by simp at hx; subst hx; exact .inr h5.2.1)) (fun k hd => hk.keeps.block k ?_ ?_), hk.row, hk.far⟩
  · rcases hd with hd | rfl | rfl
    · exact h.comp.low k hd
    · exact h.cp.lt
    · exact h.res.lt
  · simp only [List.mem_singleton]
    rcases hd with hd | rfl | rfl
    · rintro rfl
      exact h5.2.2.1 hd
    · exact fun e => h5.1 e.symm
    · exact fun e => h5.2.2.2 e.symm
theorem copy_start {w0 w : World} {C left r : Nat} {t : Ty} {vn va : Value} (hB : Below w0.heap.size w0 w) (hC0 : w0.heap.size ≤ C) (hty : TyAt w0 vn va t) (hv : validB r t = true) (hd : 72 * (sizeF r t - 1) ≤ left) (hl : left ≤ 1000000000) (hC : Has w C 47 [.int .i64 (left : Int), .bool false, .map none, .map none]) :
    CopyAt w0 w (((w.alloc (.cells #[.int .i64 t.kind, vn, va] 25)).alloc (.cells #[.int .i64 0, .slice none 0 0, .slice none 0 0] 25)).alloc (.cells #[.pointer (some ⟨w.heap.size, 0, none⟩)] 60)) C t (.slice (some ⟨w.heap.size + 1 + 1, 0, none⟩) 1 1) [⟨w.heap.size, 0, r, t, vn, va⟩] (fun k => k = w.heap.size) left := by
  have b1 := Has.new w 25 [.int .i64 t.kind, vn, va]
  have b2 := Has.new (w.alloc (.cells #[.int .i64 t.kind, vn, va] 25)) 25 [.int .i64 0, .slice none 0 0, .slice none 0 0]
  have b3 := Has.new ((w.alloc (.cells #[.int .i64 t.kind, vn, va] 25)).alloc (.cells #[.int .i64 0, .slice none 0 0, .slice none 0 0] 25)) 60 [.pointer (some ⟨w.heap.size, 0, none⟩)]
  simp only [World.size_alloc] at b2 b3
  have c1 := (b1.keeps (Keeps.alloc [] _ (.cells #[.int .i64 0, .slice none 0 0, .slice none 0 0] 25)) (by simp)).keeps (Keeps.alloc [] _ (.cells #[.pointer (some ⟨w.heap.size, 0, none⟩)] 60)) (by simp)
  have c2 := b2.keeps (Keeps.alloc [] _ (.cells #[.pointer (some ⟨w.heap.size, 0, none⟩)] 60)) (by simp)
  have K : Keeps [C] w (((w.alloc (.cells #[.int .i64 t.kind, vn, va] 25)).alloc (.cells #[.int .i64 0, .slice none 0 0, .slice none 0 0] 25)).alloc (.cells #[.pointer (some ⟨w.heap.size, 0, none⟩)] 60)) := ((Keeps.alloc _ _ _).trans (Keeps.alloc [] _ _) (by simp)).trans (Keeps.alloc [] _ _) (by simp)
  have hC3 := ((hC.keeps (Keeps.alloc [] w (.cells #[.int .i64 t.kind, vn, va] 25)) (by simp)).keeps (Keeps.alloc [] _ (.cells #[.int .i64 0, .slice none 0 0, .slice none 0 0] 25)) (by simp)).keeps (Keeps.alloc [] _ (.cells #[.pointer (some ⟨w.heap.size, 0, none⟩)] 60)) (by simp)
  refine ⟨⟨?_, Comp.start c1, ?_, K, hC3, c2, hC.lt, by simpa [due] using hd, hl, hB, hC0⟩, own_of (by omega) b3 (Nat.le_refl _) (by unfold maxLen; omega) rfl rfl, ?_⟩
  · intro k hk
    omega
  · intro p hp
    rw [List.mem_singleton] at hp
    subst hp
    exact ⟨Nat.le_refl _, ⟨_, c1, by simp, rfl, rfl, rfl⟩, hty, hv⟩
  · intro g hg
    injection hg with hg
    simp only at hg
    omega
set_option maxRecDepth 100000 in
set_option maxHeartbeats 16000000 in
theorem copy_any (t : Ty) (vn va : Value) (C left : Nat) (w0 w : World) (hB : Below w0.heap.size w0 w) (hC0 : w0.heap.size ≤ C) (hty : TyAt w0 vn va t) (hv : validB 50 t = true) (hsz : sizeF 50 t ≤ 10000) (hl : 1048576 = left) (hC : Has w C 47 [.int .i64 (left : Int), .bool false, .map none, .map none]) :
    Calls Tryd.prog 62 #[.pointer (some ⟨C, 0, none⟩), .agg #[.int .i64 t.kind, vn, va]] w (CopyOk C w t) := by
  obtain ⟨an, cn, aa, ca, rfl, rfl⟩ := hty.shape
  have HS := Lib.hid (copy_start hB hC0 hty hv (left := left) (by omega) (by omega) hC)
  have howe : sizeF 50 t ≤ 10000 := hsz
  clear hty hv hC hl hsz hB hC0
  go_enter Tryd.func62, Tryd.ntmps62
  go_wp2
  go_loopg [5] 10000 (fun gk v5 wr => ∃ (s5 : Value) (l : List Pend) (D : Nat → Prop) (lf : Nat), s5 = v5 ∧ owe l ≤ gk ∧ gk ≤ 10000 ∧ Hid (CopyAt w0 w wr C t s5 l D lf))
  case atStart => exact ⟨_, _, _, _, rfl, by simpa [owe] using howe, Nat.le_refl _, HS⟩
  case round =>
    obtain ⟨s5, l, D, lf, rfl, how, hgk, HA⟩ := hrel
    clear HS howe
    rcases List.eq_nil_or_concat l with rfl | ⟨l, p, rfl⟩
    · obtain ⟨vn2, va2, c0, c1, c2, hty⟩ := HA.out.core.comp.fin wr (Nat.le_refl _) (fun _ _ _ _ => rfl) (by simp)
      obtain ⟨an2, cn2, aa2, ca2, rfl, rfl⟩ := hty.shape
      obtain ⟨a5, c5, rfl⟩ := row_shape HA.out.row
      have r0 := HA.out.core.res.cell 0
      have r1 := HA.out.core.res.cell 1
      have r2 := HA.out.core.res.cell 2
      have f0 := HA.out.core.res.frozen 0
      have f1 := HA.out.core.res.frozen 1
      have f2 := HA.out.core.res.frozen 2
      have rl := HA.out.core.res.lt
      simp only [List.getElem?_cons_zero, List.getElem?_cons_succ] at r0 r1 r2
      have HFin : Hid (∀ a b c, CopyOk C w t (.returned (.agg #[.int .i64 t.kind, .slice an2 t.names.length cn2, .slice aa2 t.args.length ca2])) (((wr.setCell ⟨w.heap.size + 1, 0, none⟩ a).setCell ⟨w.heap.size + 1, 1, none⟩ b).setCell ⟨w.heap.size + 1, 2, none⟩ c)) := Lib.hid (fun a b c => by
        have K := ((Keeps.set wr (w.heap.size + 1) 0 a).trans (Keeps.set _ (w.heap.size + 1) 1 b) fun _ hx => .inl hx).trans (Keeps.set _ (w.heap.size + 1) 2 c) fun _ hx => .inl hx
        have hst := HA.out.core
        refine ⟨_, _, lf, rfl, ⟨fun k hk => hk.2, fun W' hs hag => ?_⟩, hst.keeps.trans K (fun x hx => by simp at hx; subst hx; exact .inr (by omega)), hst.cp.keeps K (by have := hst.clt; simp; omega)⟩
        have hD : ∀ k, D k → W'.heap[k]? = wr.heap[k]? := fun k hk => (hag k ⟨(hst.dlow k hk).1, Nat.lt_of_lt_of_le (hst.comp.low k hk) K.size⟩).trans (K.block k (hst.comp.low k hk) (by have := (hst.dlow k hk).2; simpa using this))
        have hG : w.heap.size ≠ w.heap.size + 1 := by omega
        obtain ⟨vn3, va3, d0, d1, d2, hty3⟩ := hst.comp.fin W' (Nat.le_trans K.size hs) (fun k i hk _ => cell_of_heap (hD k hk) i) (by simp)
        have hgl : w.heap.size < wr.heap.size := by omega
        have e : W'.heap[w.heap.size]? = wr.heap[w.heap.size]? := (hag w.heap.size ⟨Nat.le_refl _, Nat.lt_of_lt_of_le hgl K.size⟩).trans (K.block _ hgl (by simp))
        rw [cell_of_heap e, c1] at d1
        rw [cell_of_heap e, c2] at d2
        injection d1 with d1
        injection d2 with d2
        rw [d1, d2]
        exact hty3)
      clear hty HA
      go_wp2
      exact bodyPost_ret (v := .agg #[.int .i64 t.kind, .slice an2 t.names.length cn2, .slice aa2 t.args.length ca2]) (by simp [results, Tryd.results62, go_sem, r0, r1, r2]) rfl (HFin.out _ _ _)
    · rw [List.concat_eq_append] at HA how
      obtain ⟨g5, c5, rfl, hc5, x5, v5, hv5, hrow⟩ := row_last HA.out.row
      obtain ⟨pb, po, pr, pt, pvn, pva⟩ := p
      have hp := HA.out.core.pend _ (List.mem_append_right _ (List.mem_singleton.2 rfl))
      obtain ⟨ds, hds, hdl, hd0, hd1, hd2⟩ := hp.has
      simp only [Pend.ptr] at x5
      simp only at hds hdl hd0 hd1 hd2
      obtain ⟨kd, ns, ts⟩ : ∃ kd ns ts, pt = .mk kd ns ts := ⟨_, _, _, pt.eta⟩
      obtain ⟨ts, rfl⟩ := ts
      obtain ⟨an5, cn5, aa5, ca5, e1, e2⟩ := hp.ty.shape
      simp only [Ty.names, Ty.args] at e1 e2
      subst e1 e2
      obtain ⟨n, hn⟩ : ∃ n, l.length = n := ⟨_, rfl⟩
      rw [hn] at hc5 x5
      have hn9 : n ≤ 10000 := by
        have := owe_len (l ++ [⟨pb, po, pr, .mk kd ns ts, .slice an5 ns.length cn5, .slice aa5 ts.length ca5⟩])
        rw [List.length_append, hn] at this
        omega
      rw [hn]
      have HRow := Lib.hid hrow
      clear hrow
      go_wp2
      obtain ⟨hpb, r, hr, hva⟩ := valid_parts (show validB pr (.mk kd ns ts) = true from hp.valid)
      subst hr
      have hnt := parts_names hpb
      have hs1 := size_sumF r kd ns ts
      have hsl := sum_less r ts
      rw [← sumF_sum] at hsl
      have HB : Hid (ns.length ≤ ts.length ∧ ts.length ≤ 10000 ∧ 72 * ts.length ≤ lf ∧ lf ≤ 1000000000 ∧ owe l + 1 + sumF r ts ≤ gk) := Lib.hid (by
        have h1 := HA.out.core.due
        rw [due_snoc] at h1
        simp only at h1
        rw [owe_snoc] at how
        simp only at how
        have := HA.out.core.lfb
        omega)
      have HVa := Lib.hid hva
      have HCo := Lib.hid HA.out.core
      have HFar := Lib.hid HA.out.far
      have hdC : pb ≠ C := by have h1 := hp.low; have h2 := HA.out.core.clt; simp only at h1; omega
      have HDs := Lib.hid (⟨hds, hdl⟩ : Has wr pb 25 ds ∧ po + 2 < ds.length)
      have HCp := Lib.hid HA.out.core.cp
      have HStr : Hid (∀ W, Keeps [C] wr W → StrsAt W (.slice an5 ns.length cn5) ns) := Lib.hid fun W hk => hp.ty.parts.1.below (Nat.le_refl _) (HA.out.core.below.trans (hk.toBelow _ HA.out.core.below.size (by have := HA.out.core.clo; simpa using this)))
      have HTys := Lib.hid (hp.ty.parts.2)
      have x3 := HA.out.core.cp.cell 3
      have y1 := hds.cell (po + 1)
      rw [hd1] at y1
      simp only [List.getElem?_cons_zero, List.getElem?_cons_succ] at x3
      have HD2 := Lib.hid hd2
      clear hp hds hdl hd0 hd1 hd2 x5 HA hc5 hpb hva hnt hs1 hsl how
      go_cut [37] (fun s37 wx => ∃ (vn : Value) (lf2 : Nat), vn = s37 ∧ Hid (NamedAt wr wx C pb po ds ns lf lf2 vn))
      case first =>
        by_cases hn0 : ns = []
        · subst hn0
          have HNo := Lib.hid (copiedS_no an5 cn5 C wr.drew)
          have HE : Hid (NamedAt wr (wr.drew.setCell ⟨pb, po + 1, none⟩ (.slice none 0 0)) C pb po ds [] lf lf (.slice none 0 0)) := Lib.hid ⟨.inl ⟨rfl, rfl⟩, ⟨_, _, rfl⟩, ((Keeps.drew [C, pb] wr).trans (Keeps.set wr.drew pb (po + 1) (.slice none 0 0)) (by simp)), HDs.out.1.drew.set _ _, (HCp.out.drew).keeps (Keeps.set wr.drew pb (po + 1) (.slice none 0 0)) (by simp; omega), by simp, Nat.le_refl _⟩
          have z0 := HDs.out.1.drew.cell (po + 1)
          have z1 := HDs.out.1.drew.frozen (po + 1)
          have z2 := HDs.out.1.drew.lt
          have z3 : (ds[po + 1]?).isSome = true := by have := HDs.out.2; simp; omega
          obtain ⟨zv, hzv⟩ := Option.isSome_iff_exists.1 z3
          rw [hzv] at z0
          clear z3 hzv HStr HB HVa HTys HD2 HCo HFar
          refine region_E (S := S2 5 (fun W => W.cell? ⟨C, 3, none⟩ = some (.map none)) 9 (fun W => W.cell? ⟨pb, po + 1, none⟩ = some (.slice an5 0 cn5))) (by kernel_rfl) ?_
          have k3 : wr.drew.cell? ⟨C, 3, none⟩ = some (.map none) := x3
          have k1 : wr.drew.cell? ⟨pb, po + 1, none⟩ = some (.slice an5 0 cn5) := y1
          refine wpAnyE_take (i := 0) (oi := { dst := some 26, op := Op.move (.tmp 6), type := _, pos := _, after := _, guard := _ }) (v := .pointer (some ⟨pb, po, none⟩)) rfl (by kernel_rfl) (by kernel_rfl) (by kernel_rfl) (fun _ _ _ h => h) (Or.inl ⟨by rfl, ?_⟩) ⟨fun e => by omega, fun e => by omega⟩ ?_
          · intro w' hs
            clear hs
            go_simp
          try simp only [Act.put, List.setIfInBounds_toArray, List.set_cons_zero, List.set_cons_succ]
          refine wpAnyE_take (i := 1) (oi := { dst := some 27, op := Op.move (.tmp 0), type := _, pos := _, after := _, guard := _ }) (v := .pointer (some ⟨C, 0, none⟩)) rfl (by kernel_rfl) (by kernel_rfl) (by kernel_rfl) (fun _ _ _ h => h) (Or.inl ⟨by rfl, ?_⟩) ⟨fun e => by omega, fun e => by omega⟩ ?_
          · intro w' hs
            clear hs
            go_simp
          try simp only [Act.put, List.setIfInBounds_toArray, List.set_cons_zero, List.set_cons_succ]
          refine wpAnyE_take (i := 2) (oi := { dst := some 28, op := Op.move (.tmp 0), type := _, pos := _, after := _, guard := _ }) (v := .pointer (some ⟨C, 0, none⟩)) rfl (by kernel_rfl) (by kernel_rfl) (by kernel_rfl) (fun _ _ _ h => h) (Or.inl ⟨by rfl, ?_⟩) ⟨fun e => by omega, fun e => by omega⟩ ?_
          · intro w' hs
            clear hs
            go_simp
          try simp only [Act.put, List.setIfInBounds_toArray, List.set_cons_zero, List.set_cons_succ]
          refine wpAnyE_take (i := 3) (oi := { dst := some 29, op := Op.nilCheck (.tmp 28), type := _, pos := _, after := _, guard := _ }) (v := .pointer (some ⟨C, 0, none⟩)) rfl (by kernel_rfl) (by kernel_rfl) (by kernel_rfl) (fun _ _ _ h => h) (Or.inl ⟨by rfl, ?_⟩) ⟨fun e => by omega, fun e => by omega⟩ ?_
          · intro w' hs
            clear hs
            go_simp
          try simp only [Act.put, List.setIfInBounds_toArray, List.set_cons_zero, List.set_cons_succ]
          refine wpAnyE_take (i := 4) (oi := { dst := some 30, op := Op.fieldAddr 47 (.tmp 29) 3, type := _, pos := _, after := _, guard := _ }) (v := .pointer (some ⟨C, 3, none⟩)) rfl (by kernel_rfl) (by kernel_rfl) (by kernel_rfl) (fun _ _ _ h => h) (Or.inl ⟨by rfl, ?_⟩) ⟨fun e => by omega, fun e => by omega⟩ ?_
          · intro w' hs
            clear hs
            go_simp
          try simp only [Act.put, List.setIfInBounds_toArray, List.set_cons_zero, List.set_cons_succ]
          refine wpAnyE_take (i := 5) (oi := { dst := some 31, op := Op.load 45 (.tmp 30), type := _, pos := _, after := _, guard := _ }) (v := .map none) rfl (by kernel_rfl) (by kernel_rfl) (by kernel_rfl) (fun _ _ _ h => h) (Or.inl ⟨by rfl, ?_⟩) ⟨fun _ => k3, fun e => by omega⟩ ?_
          · intro w' hs
            have s0 := hs.1 rfl
            go_simp
          try simp only [Act.put, List.setIfInBounds_toArray, List.set_cons_zero, List.set_cons_succ]
          refine wpAnyE_take (i := 6) (oi := { dst := some 32, op := Op.move (.tmp 6), type := _, pos := _, after := _, guard := _ }) (v := .pointer (some ⟨pb, po, none⟩)) rfl (by kernel_rfl) (by kernel_rfl) (by kernel_rfl) (fun _ _ _ h => h) (Or.inl ⟨by rfl, ?_⟩) ⟨fun e => by omega, fun e => by omega⟩ ?_
          · intro w' hs
            clear hs
            go_simp
          try simp only [Act.put, List.setIfInBounds_toArray, List.set_cons_zero, List.set_cons_succ]
          refine wpAnyE_take (i := 7) (oi := { dst := some 33, op := Op.nilCheck (.tmp 32), type := _, pos := _, after := _, guard := _ }) (v := .pointer (some ⟨pb, po, none⟩)) rfl (by kernel_rfl) (by kernel_rfl) (by kernel_rfl) (fun _ _ _ h => h) (Or.inl ⟨by rfl, ?_⟩) ⟨fun e => by omega, fun e => by omega⟩ ?_
          · intro w' hs
            clear hs
            go_simp
          try simp only [Act.put, List.setIfInBounds_toArray, List.set_cons_zero, List.set_cons_succ]
          refine wpAnyE_take (i := 8) (oi := { dst := some 34, op := Op.fieldAddr 25 (.tmp 33) 1, type := _, pos := _, after := _, guard := _ }) (v := .pointer (some ⟨pb, po + 1, none⟩)) rfl (by kernel_rfl) (by kernel_rfl) (by kernel_rfl) (fun _ _ _ h => h) (Or.inl ⟨by rfl, ?_⟩) ⟨fun e => by omega, fun e => by omega⟩ ?_
          · intro w' hs
            clear hs
            go_simp
          try simp only [Act.put, List.setIfInBounds_toArray, List.set_cons_zero, List.set_cons_succ]
          refine wpAnyE_take (i := 9) (oi := { dst := some 35, op := Op.load 22 (.tmp 34), type := _, pos := _, after := _, guard := _ }) (v := .slice an5 0 cn5) rfl (by kernel_rfl) (by kernel_rfl) (by kernel_rfl) (fun _ _ _ h => h) (Or.inl ⟨by rfl, ?_⟩) ⟨fun e => by omega, fun _ => k1⟩ ?_
          · intro w' hs
            have s0 := hs.2 rfl
            go_simp
          try simp only [Act.put, List.setIfInBounds_toArray, List.set_cons_zero, List.set_cons_succ]
          refine wpAnyE_ready (rs := [10]) (by kernel_rfl) (by simp) ?_
          refine AllReadyE.cons (o := { dst := some 36, op := Op.call { callee := .value (.func 76), args := #[.tmp 27, .tmp 31, .tmp 35, .const (.int .i64 16)], argTypes := _ }, type := _, pos := _, after := _, guard := _ }) rfl (fun K hK => ?_) AllReadyE.nil
          go_simp
          refine (HNo.out).mono ?_
          rintro e w5 ⟨rfl, rfl⟩
          refine hK.out _ _ (pres2 (.inl (by kernel_rfl)) (.inl (by kernel_rfl))) ?_
          clear hK K
          try simp only [Act.put, List.setIfInBounds_toArray, List.set_cons_zero, List.set_cons_succ]
          refine wpAnyE_take (i := 11) (oi := { dst := some 25, op := Op.move (.tmp 36), type := _, pos := _, after := _, guard := _ }) (v := .tuple #[.slice none 0 0, .bool false]) rfl (by kernel_rfl) (by kernel_rfl) (by kernel_rfl) (fun _ _ _ h => h) (Or.inl ⟨by rfl, ?_⟩) ⟨fun e => by omega, fun e => by omega⟩ ?_
          · intro w' hs
            clear hs
            go_simp
          try simp only [Act.put, List.setIfInBounds_toArray, List.set_cons_zero, List.set_cons_succ]
          refine wpAnyE_take (i := 12) (oi := { dst := some 37, op := Op.extract (.tmp 25) 0, type := _, pos := _, after := _, guard := _ }) (v := .slice none 0 0) rfl (by kernel_rfl) (by kernel_rfl) (by kernel_rfl) (fun _ _ _ h => h) (Or.inl ⟨by rfl, ?_⟩) ⟨fun e => by omega, fun e => by omega⟩ ?_
          · intro w' hs
            clear hs
            go_simp
          try simp only [Act.put, List.setIfInBounds_toArray, List.set_cons_zero, List.set_cons_succ]
          refine wpAnyE_take (i := 13) (oi := { dst := some 38, op := Op.extract (.tmp 25) 1, type := _, pos := _, after := _, guard := _ }) (v := .bool false) rfl (by kernel_rfl) (by kernel_rfl) (by kernel_rfl) (fun _ _ _ h => h) (Or.inl ⟨by rfl, ?_⟩) ⟨fun e => by omega, fun e => by omega⟩ ?_
          · intro w' hs
            clear hs
            go_simp
          try simp only [Act.put, List.setIfInBounds_toArray, List.set_cons_zero, List.set_cons_succ]
          refine wpAnyE_take (i := 14) (oi := { dst := some 39, op := Op.nilCheck (.tmp 26), type := _, pos := _, after := _, guard := _ }) (v := .pointer (some ⟨pb, po, none⟩)) rfl (by kernel_rfl) (by kernel_rfl) (by kernel_rfl) (fun _ _ _ h => h) (Or.inl ⟨by rfl, ?_⟩) ⟨fun e => by omega, fun e => by omega⟩ ?_
          · intro w' hs
            clear hs
            go_simp
          try simp only [Act.put, List.setIfInBounds_toArray, List.set_cons_zero, List.set_cons_succ]
          refine wpAnyE_take (i := 15) (oi := { dst := some 40, op := Op.fieldAddr 25 (.tmp 39) 1, type := _, pos := _, after := _, guard := _ }) (v := .pointer (some ⟨pb, po + 1, none⟩)) rfl (by kernel_rfl) (by kernel_rfl) (by kernel_rfl) (fun _ _ _ h => h) (Or.inl ⟨by rfl, ?_⟩) ⟨fun e => by omega, fun e => by omega⟩ ?_
          · intro w' hs
            clear hs
            go_simp
          try simp only [Act.put, List.setIfInBounds_toArray, List.set_cons_zero, List.set_cons_succ]
          refine wpAnyE_ready (rs := [16]) (by kernel_rfl) (by simp) ?_
          refine AllReadyE.cons (o := { dst := none, op := Op.store 22 (.tmp 40) (.tmp 37), type := _, pos := _, after := _, guard := _ }) rfl (fun K hK => ?_) AllReadyE.nil
          go_simp
          refine hK.out _ _ (pres2 (.inl (by kernel_rfl)) (.inl (by kernel_rfl))) ?_
          clear hK K
          refine wpAnyE_done (by kernel_rfl) ?_ _
          go_wp2_with fail
          go_meet
          exact ⟨_, _, rfl, HE⟩
        · have hpos : 0 < ns.length := List.length_pos_iff.2 hn0
          obtain ⟨b1, o1, rfl, -, -⟩ := (HStr.out wr (Keeps.refl _ _)).at 0 hpos
          have HSo := Lib.hid (copiedS_some (ns.map Value.string) b1 o1 ns.length cn5 C lf wr.drew hpos (by have := HB.out; omega) (by have := HB.out; omega) (by have := HB.out; omega) HCp.out.drew (fun W hk => cloneS_any ns _ cn5 W (HStr.out W ((Keeps.drew [C] wr).trans hk (by simp))) hn0 (by have := HB.out; omega)))
          have HNx : Hid (∀ (g : Nat) (w5 : World), wr.drew.heap.size ≤ g → (∃ ds, Has w5 g 9 ds ∧ ds.take (ns.map Value.string).length = ns.map Value.string ∧ (ns.map Value.string).length ≤ ds.length) → Keeps [C] wr.drew w5 → Has w5 C 47 [.int .i64 ((lf - ns.length * 16 : Nat) : Int), .bool false, .map none, .map none] →
              (∃ zv, w5.cell? ⟨pb, po + 1, none⟩ = some zv) ∧ w5.frozen? ⟨pb, po + 1, none⟩ = false ∧ pb < w5.heap.size ∧ NamedAt wr (w5.setCell ⟨pb, po + 1, none⟩ (.slice (some ⟨g, 0, none⟩) ns.length ns.length)) C pb po ds ns lf (lf - ns.length * 16) (.slice (some ⟨g, 0, none⟩) ns.length ns.length)) := Lib.hid (by
            rintro g w5 hg ⟨es, h1, h2, h3⟩ hk hc
            have hp5 := HDs.out.1.drew.keeps hk (by simp; omega)
            have hkS := Keeps.set w5 pb (po + 1) (.slice (some ⟨g, 0, none⟩) ns.length ns.length)
            have hgp : g ≠ pb := by have := HDs.out.1.lt; have h9 : wr.drew.heap.size = wr.heap.size := rfl; omega
            refine ⟨?_, hp5.frozen _, hp5.lt, .inr ⟨g, es, rfl, hg, h1.keeps hkS (by simpa using hgp), by simpa using h2⟩, ⟨_, _, rfl⟩, ((Keeps.drew [C, pb] wr).trans hk (by simp)).trans hkS (by simp), hp5.set _ _, hc.keeps hkS (by simp; omega), by have := HB.out; omega, Nat.sub_le _ _⟩
            rw [hp5.cell]
            exact ⟨_, List.getElem?_eq_getElem (by have := HDs.out.2; omega)⟩)
          clear HStr HVa HTys HD2 HCo HFar hn0 hpos
          refine region_E (S := S2 5 (fun W => W.cell? ⟨C, 3, none⟩ = some (.map none)) 9 (fun W => W.cell? ⟨pb, po + 1, none⟩ = some (.slice (some ⟨b1, o1, none⟩) ns.length cn5))) (by kernel_rfl) ?_
          have k3 : wr.drew.cell? ⟨C, 3, none⟩ = some (.map none) := x3
          have k1 : wr.drew.cell? ⟨pb, po + 1, none⟩ = some (.slice (some ⟨b1, o1, none⟩) ns.length cn5) := y1
          refine wpAnyE_take (i := 0) (oi := { dst := some 26, op := Op.move (.tmp 6), type := _, pos := _, after := _, guard := _ }) (v := .pointer (some ⟨pb, po, none⟩)) rfl (by kernel_rfl) (by kernel_rfl) (by kernel_rfl) (fun _ _ _ h => h) (Or.inl ⟨by rfl, ?_⟩) ⟨fun e => by omega, fun e => by omega⟩ ?_
          · intro w' hs
            clear hs
            go_simp
          try simp only [Act.put, List.setIfInBounds_toArray, List.set_cons_zero, List.set_cons_succ]
          refine wpAnyE_take (i := 1) (oi := { dst := some 27, op := Op.move (.tmp 0), type := _, pos := _, after := _, guard := _ }) (v := .pointer (some ⟨C, 0, none⟩)) rfl (by kernel_rfl) (by kernel_rfl) (by kernel_rfl) (fun _ _ _ h => h) (Or.inl ⟨by rfl, ?_⟩) ⟨fun e => by omega, fun e => by omega⟩ ?_
          · intro w' hs
            clear hs
            go_simp
          try simp only [Act.put, List.setIfInBounds_toArray, List.set_cons_zero, List.set_cons_succ]
          refine wpAnyE_take (i := 2) (oi := { dst := some 28, op := Op.move (.tmp 0), type := _, pos := _, after := _, guard := _ }) (v := .pointer (some ⟨C, 0, none⟩)) rfl (by kernel_rfl) (by kernel_rfl) (by kernel_rfl) (fun _ _ _ h => h) (Or.inl ⟨by rfl, ?_⟩) ⟨fun e => by omega, fun e => by omega⟩ ?_
          · intro w' hs
            clear hs
            go_simp
          try simp only [Act.put, List.setIfInBounds_toArray, List.set_cons_zero, List.set_cons_succ]
          refine wpAnyE_take (i := 3) (oi := { dst := some 29, op := Op.nilCheck (.tmp 28), type := _, pos := _, after := _, guard := _ }) (v := .pointer (some ⟨C, 0, none⟩)) rfl (by kernel_rfl) (by kernel_rfl) (by kernel_rfl) (fun _ _ _ h => h) (Or.inl ⟨by rfl, ?_⟩) ⟨fun e => by omega, fun e => by omega⟩ ?_
          · intro w' hs
            clear hs
            go_simp
          try simp only [Act.put, List.setIfInBounds_toArray, List.set_cons_zero, List.set_cons_succ]
          refine wpAnyE_take (i := 4) (oi := { dst := some 30, op := Op.fieldAddr 47 (.tmp 29) 3, type := _, pos := _, after := _, guard := _ }) (v := .pointer (some ⟨C, 3, none⟩)) rfl (by kernel_rfl) (by kernel_rfl) (by kernel_rfl) (fun _ _ _ h => h) (Or.inl ⟨by rfl, ?_⟩) ⟨fun e => by omega, fun e => by omega⟩ ?_
          · intro w' hs
            clear hs
            go_simp
          try simp only [Act.put, List.setIfInBounds_toArray, List.set_cons_zero, List.set_cons_succ]
          refine wpAnyE_take (i := 5) (oi := { dst := some 31, op := Op.load 45 (.tmp 30), type := _, pos := _, after := _, guard := _ }) (v := .map none) rfl (by kernel_rfl) (by kernel_rfl) (by kernel_rfl) (fun _ _ _ h => h) (Or.inl ⟨by rfl, ?_⟩) ⟨fun _ => k3, fun e => by omega⟩ ?_
          · intro w' hs
            have s0 := hs.1 rfl
            go_simp
          try simp only [Act.put, List.setIfInBounds_toArray, List.set_cons_zero, List.set_cons_succ]
          refine wpAnyE_take (i := 6) (oi := { dst := some 32, op := Op.move (.tmp 6), type := _, pos := _, after := _, guard := _ }) (v := .pointer (some ⟨pb, po, none⟩)) rfl (by kernel_rfl) (by kernel_rfl) (by kernel_rfl) (fun _ _ _ h => h) (Or.inl ⟨by rfl, ?_⟩) ⟨fun e => by omega, fun e => by omega⟩ ?_
          · intro w' hs
            clear hs
            go_simp
          try simp only [Act.put, List.setIfInBounds_toArray, List.set_cons_zero, List.set_cons_succ]
          refine wpAnyE_take (i := 7) (oi := { dst := some 33, op := Op.nilCheck (.tmp 32), type := _, pos := _, after := _, guard := _ }) (v := .pointer (some ⟨pb, po, none⟩)) rfl (by kernel_rfl) (by kernel_rfl) (by kernel_rfl) (fun _ _ _ h => h) (Or.inl ⟨by rfl, ?_⟩) ⟨fun e => by omega, fun e => by omega⟩ ?_
          · intro w' hs
            clear hs
            go_simp
          try simp only [Act.put, List.setIfInBounds_toArray, List.set_cons_zero, List.set_cons_succ]
          refine wpAnyE_take (i := 8) (oi := { dst := some 34, op := Op.fieldAddr 25 (.tmp 33) 1, type := _, pos := _, after := _, guard := _ }) (v := .pointer (some ⟨pb, po + 1, none⟩)) rfl (by kernel_rfl) (by kernel_rfl) (by kernel_rfl) (fun _ _ _ h => h) (Or.inl ⟨by rfl, ?_⟩) ⟨fun e => by omega, fun e => by omega⟩ ?_
          · intro w' hs
            clear hs
            go_simp
          try simp only [Act.put, List.setIfInBounds_toArray, List.set_cons_zero, List.set_cons_succ]
          refine wpAnyE_take (i := 9) (oi := { dst := some 35, op := Op.load 22 (.tmp 34), type := _, pos := _, after := _, guard := _ }) (v := .slice (some ⟨b1, o1, none⟩) ns.length cn5) rfl (by kernel_rfl) (by kernel_rfl) (by kernel_rfl) (fun _ _ _ h => h) (Or.inl ⟨by rfl, ?_⟩) ⟨fun e => by omega, fun _ => k1⟩ ?_
          · intro w' hs
            have s0 := hs.2 rfl
            go_simp
          try simp only [Act.put, List.setIfInBounds_toArray, List.set_cons_zero, List.set_cons_succ]
          refine wpAnyE_ready (rs := [10]) (by kernel_rfl) (by simp) ?_
          refine AllReadyE.cons (o := { dst := some 36, op := Op.call { callee := .value (.func 76), args := #[.tmp 27, .tmp 31, .tmp 35, .const (.int .i64 16)], argTypes := _ }, type := _, pos := _, after := _, guard := _ }) rfl (fun K hK => ?_) AllReadyE.nil
          go_simp
          refine (HSo.out).mono ?_
          rintro e w5 ⟨g, rfl, hg, hes, hk5, hc5⟩
          obtain ⟨⟨zv, z0⟩, z1, z2, hz⟩ := HNx.out g w5 hg hes hk5 hc5
          have HE := Lib.hid hz
          clear hz hg hes hk5 hc5
          refine hK.out _ _ (pres2 (.inl (by kernel_rfl)) (.inl (by kernel_rfl))) ?_
          clear hK K
          try simp only [Act.put, List.setIfInBounds_toArray, List.set_cons_zero, List.set_cons_succ]
          refine wpAnyE_take (i := 11) (oi := { dst := some 25, op := Op.move (.tmp 36), type := _, pos := _, after := _, guard := _ }) (v := .tuple #[.slice (some ⟨g, 0, none⟩) ns.length ns.length, .bool true]) rfl (by kernel_rfl) (by kernel_rfl) (by kernel_rfl) (fun _ _ _ h => h) (Or.inl ⟨by rfl, ?_⟩) ⟨fun e => by omega, fun e => by omega⟩ ?_
          · intro w' hs
            clear hs
            go_simp
          try simp only [Act.put, List.setIfInBounds_toArray, List.set_cons_zero, List.set_cons_succ]
          refine wpAnyE_take (i := 12) (oi := { dst := some 37, op := Op.extract (.tmp 25) 0, type := _, pos := _, after := _, guard := _ }) (v := .slice (some ⟨g, 0, none⟩) ns.length ns.length) rfl (by kernel_rfl) (by kernel_rfl) (by kernel_rfl) (fun _ _ _ h => h) (Or.inl ⟨by rfl, ?_⟩) ⟨fun e => by omega, fun e => by omega⟩ ?_
          · intro w' hs
            clear hs
            go_simp
          try simp only [Act.put, List.setIfInBounds_toArray, List.set_cons_zero, List.set_cons_succ]
          refine wpAnyE_take (i := 13) (oi := { dst := some 38, op := Op.extract (.tmp 25) 1, type := _, pos := _, after := _, guard := _ }) (v := .bool true) rfl (by kernel_rfl) (by kernel_rfl) (by kernel_rfl) (fun _ _ _ h => h) (Or.inl ⟨by rfl, ?_⟩) ⟨fun e => by omega, fun e => by omega⟩ ?_
          · intro w' hs
            clear hs
            go_simp
          try simp only [Act.put, List.setIfInBounds_toArray, List.set_cons_zero, List.set_cons_succ]
          refine wpAnyE_take (i := 14) (oi := { dst := some 39, op := Op.nilCheck (.tmp 26), type := _, pos := _, after := _, guard := _ }) (v := .pointer (some ⟨pb, po, none⟩)) rfl (by kernel_rfl) (by kernel_rfl) (by kernel_rfl) (fun _ _ _ h => h) (Or.inl ⟨by rfl, ?_⟩) ⟨fun e => by omega, fun e => by omega⟩ ?_
          · intro w' hs
            clear hs
            go_simp
          try simp only [Act.put, List.setIfInBounds_toArray, List.set_cons_zero, List.set_cons_succ]
          refine wpAnyE_take (i := 15) (oi := { dst := some 40, op := Op.fieldAddr 25 (.tmp 39) 1, type := _, pos := _, after := _, guard := _ }) (v := .pointer (some ⟨pb, po + 1, none⟩)) rfl (by kernel_rfl) (by kernel_rfl) (by kernel_rfl) (fun _ _ _ h => h) (Or.inl ⟨by rfl, ?_⟩) ⟨fun e => by omega, fun e => by omega⟩ ?_
          · intro w' hs
            clear hs
            go_simp
          try simp only [Act.put, List.setIfInBounds_toArray, List.set_cons_zero, List.set_cons_succ]
          refine wpAnyE_ready (rs := [16]) (by kernel_rfl) (by simp) ?_
          refine AllReadyE.cons (o := { dst := none, op := Op.store 22 (.tmp 40) (.tmp 37), type := _, pos := _, after := _, guard := _ }) rfl (fun K hK => ?_) AllReadyE.nil
          go_simp
          refine hK.out _ _ (pres2 (.inl (by kernel_rfl)) (.inl (by kernel_rfl))) ?_
          clear hK K
          refine wpAnyE_done (by kernel_rfl) ?_ _
          go_wp2_with fail
          go_meet
          exact ⟨_, _, rfl, HE⟩
      case rest =>
        obtain ⟨vn9, lf2, rfl, HN⟩ := hcut
        obtain ⟨xs, hxs, hxt, hxr⟩ : ∃ xs : List (Ty × Value × Value), xs.map (·.1) = ts ∧ (∀ x ∈ xs, TyAt w0 x.2.1 x.2.2 x.1) ∧ (ts = [] ∨ ts ≠ [] ∧ ∃ b o, aa5 = some ⟨b, o, none⟩ ∧ b < w0.heap.size ∧ ∀ j u, (rowX xs)[j]? = some u → w0.cell? ⟨b, o + j, none⟩ = some u) := by
          by_cases h0 : ts = []
          · exact ⟨[], by rw [h0]; rfl, by simp, .inl h0⟩
          · obtain ⟨b, o, xs, e, hb, h1, h2, h3⟩ := tys_rows HTys.out h0
            exact ⟨xs, h1, h3, .inr ⟨h0, b, o, e, hb, h2⟩⟩
        have hxl : xs.length = ts.length := by rw [← hxs, List.length_map]
        have x2 := HN.out.2.2.2.2.1.drew.cell 2
        simp only [List.getElem?_cons_zero, List.getElem?_cons_succ] at x2
        have y2 := HN.out.2.2.2.1.drew.cell (po + 2)
        rw [List.getElem?_set_ne (by omega), HD2.out] at y2
        go_wp2
        go_cut [7, 8] (fun s7 s8 wy => ∃ (va : Value) (lf3 : Nat), s7 = va ∧ s8 = .bool va.ownBlock.isSome ∧ Hid (ArgedAt wc wy C lf2 lf3 xs va))
        case first =>
          rcases hxr with h0 | ⟨h0, b, o, rfl, hb, hcell⟩
          · subst h0
            have hx0 : xs = [] := List.map_eq_nil_iff.1 hxs
            subst hx0
            have HNo := Lib.hid (copiedT_no aa5 ca5 C wc.drew)
            have HE : Hid (ArgedAt wc wc.drew C lf2 lf2 [] (.slice none 0 0)) := Lib.hid ⟨.inl ⟨rfl, rfl⟩, ⟨_, _, rfl⟩, Keeps.drew [C] wc, HN.out.2.2.2.2.1.drew, by simp, Nat.le_refl _⟩
            clear hxt hxs hxl
            refine region_E (S := S2 4 (fun W => W.cell? ⟨C, 2, none⟩ = some (.map none)) 8 (fun W => W.cell? ⟨pb, po + 2, none⟩ = some (.slice aa5 0 ca5))) (by kernel_rfl) ?_
            have k2 : wc.drew.cell? ⟨C, 2, none⟩ = some (.map none) := x2
            have k1 : wc.drew.cell? ⟨pb, po + 2, none⟩ = some (.slice aa5 0 ca5) := y2
            refine wpAnyE_take (i := 0) (oi := { dst := some 42, op := Op.move (.tmp 0), type := _, pos := _, after := _, guard := _ }) (v := .pointer (some ⟨C, 0, none⟩)) rfl (by kernel_rfl) (by kernel_rfl) (by kernel_rfl) (fun _ _ _ h => h) (Or.inl ⟨by rfl, ?_⟩) ⟨fun e => by omega, fun e => by omega⟩ ?_
            · intro w' hs
              clear hs
              go_simp
            try simp only [Act.put, List.setIfInBounds_toArray, List.set_cons_zero, List.set_cons_succ]
            refine wpAnyE_take (i := 1) (oi := { dst := some 43, op := Op.move (.tmp 0), type := _, pos := _, after := _, guard := _ }) (v := .pointer (some ⟨C, 0, none⟩)) rfl (by kernel_rfl) (by kernel_rfl) (by kernel_rfl) (fun _ _ _ h => h) (Or.inl ⟨by rfl, ?_⟩) ⟨fun e => by omega, fun e => by omega⟩ ?_
            · intro w' hs
              clear hs
              go_simp
            try simp only [Act.put, List.setIfInBounds_toArray, List.set_cons_zero, List.set_cons_succ]
            refine wpAnyE_take (i := 2) (oi := { dst := some 44, op := Op.nilCheck (.tmp 43), type := _, pos := _, after := _, guard := _ }) (v := .pointer (some ⟨C, 0, none⟩)) rfl (by kernel_rfl) (by kernel_rfl) (by kernel_rfl) (fun _ _ _ h => h) (Or.inl ⟨by rfl, ?_⟩) ⟨fun e => by omega, fun e => by omega⟩ ?_
            · intro w' hs
              clear hs
              go_simp
            try simp only [Act.put, List.setIfInBounds_toArray, List.set_cons_zero, List.set_cons_succ]
            refine wpAnyE_take (i := 3) (oi := { dst := some 45, op := Op.fieldAddr 47 (.tmp 44) 2, type := _, pos := _, after := _, guard := _ }) (v := .pointer (some ⟨C, 2, none⟩)) rfl (by kernel_rfl) (by kernel_rfl) (by kernel_rfl) (fun _ _ _ h => h) (Or.inl ⟨by rfl, ?_⟩) ⟨fun e => by omega, fun e => by omega⟩ ?_
            · intro w' hs
              clear hs
              go_simp
            try simp only [Act.put, List.setIfInBounds_toArray, List.set_cons_zero, List.set_cons_succ]
            refine wpAnyE_take (i := 4) (oi := { dst := some 46, op := Op.load 44 (.tmp 45), type := _, pos := _, after := _, guard := _ }) (v := .map none) rfl (by kernel_rfl) (by kernel_rfl) (by kernel_rfl) (fun _ _ _ h => h) (Or.inl ⟨by rfl, ?_⟩) ⟨fun _ => k2, fun e => by omega⟩ ?_
            · intro w' hs
              have s0 := hs.1 rfl
              go_simp
            try simp only [Act.put, List.setIfInBounds_toArray, List.set_cons_zero, List.set_cons_succ]
            refine wpAnyE_take (i := 5) (oi := { dst := some 47, op := Op.move (.tmp 6), type := _, pos := _, after := _, guard := _ }) (v := .pointer (some ⟨pb, po, none⟩)) rfl (by kernel_rfl) (by kernel_rfl) (by kernel_rfl) (fun _ _ _ h => h) (Or.inl ⟨by rfl, ?_⟩) ⟨fun e => by omega, fun e => by omega⟩ ?_
            · intro w' hs
              clear hs
              go_simp
            try simp only [Act.put, List.setIfInBounds_toArray, List.set_cons_zero, List.set_cons_succ]
            refine wpAnyE_take (i := 6) (oi := { dst := some 48, op := Op.nilCheck (.tmp 47), type := _, pos := _, after := _, guard := _ }) (v := .pointer (some ⟨pb, po, none⟩)) rfl (by kernel_rfl) (by kernel_rfl) (by kernel_rfl) (fun _ _ _ h => h) (Or.inl ⟨by rfl, ?_⟩) ⟨fun e => by omega, fun e => by omega⟩ ?_
            · intro w' hs
              clear hs
              go_simp
            try simp only [Act.put, List.setIfInBounds_toArray, List.set_cons_zero, List.set_cons_succ]
            refine wpAnyE_take (i := 7) (oi := { dst := some 49, op := Op.fieldAddr 25 (.tmp 48) 2, type := _, pos := _, after := _, guard := _ }) (v := .pointer (some ⟨pb, po + 2, none⟩)) rfl (by kernel_rfl) (by kernel_rfl) (by kernel_rfl) (fun _ _ _ h => h) (Or.inl ⟨by rfl, ?_⟩) ⟨fun e => by omega, fun e => by omega⟩ ?_
            · intro w' hs
              clear hs
              go_simp
            try simp only [Act.put, List.setIfInBounds_toArray, List.set_cons_zero, List.set_cons_succ]
            refine wpAnyE_take (i := 8) (oi := { dst := some 50, op := Op.load 23 (.tmp 49), type := _, pos := _, after := _, guard := _ }) (v := .slice aa5 0 ca5) rfl (by kernel_rfl) (by kernel_rfl) (by kernel_rfl) (fun _ _ _ h => h) (Or.inl ⟨by rfl, ?_⟩) ⟨fun e => by omega, fun _ => k1⟩ ?_
            · intro w' hs
              have s0 := hs.2 rfl
              go_simp
            try simp only [Act.put, List.setIfInBounds_toArray, List.set_cons_zero, List.set_cons_succ]
            refine wpAnyE_ready (rs := [9]) (by kernel_rfl) (by simp) ?_
            refine AllReadyE.cons (o := { dst := some 51, op := Op.call { callee := .value (.func 77), args := #[.tmp 42, .tmp 46, .tmp 50, .const (.int .i64 56)], argTypes := _ }, type := _, pos := _, after := _, guard := _ }) rfl (fun K hK => ?_) AllReadyE.nil
            go_simp
            refine (HNo.out).mono ?_
            rintro e w5 ⟨rfl, rfl⟩
            refine hK.out _ _ (pres2 (.inl (by kernel_rfl)) (.inl (by kernel_rfl))) ?_
            clear hK K
            try simp only [Act.put, List.setIfInBounds_toArray, List.set_cons_zero, List.set_cons_succ]
            refine wpAnyE_take (i := 10) (oi := { dst := some 41, op := Op.move (.tmp 51), type := _, pos := _, after := _, guard := _ }) (v := .tuple #[.slice none 0 0, .bool false]) rfl (by kernel_rfl) (by kernel_rfl) (by kernel_rfl) (fun _ _ _ h => h) (Or.inl ⟨by rfl, ?_⟩) ⟨fun e => by omega, fun e => by omega⟩ ?_
            · intro w' hs
              clear hs
              go_simp
            try simp only [Act.put, List.setIfInBounds_toArray, List.set_cons_zero, List.set_cons_succ]
            refine wpAnyE_take (i := 11) (oi := { dst := some 52, op := Op.extract (.tmp 41) 0, type := _, pos := _, after := _, guard := _ }) (v := .slice none 0 0) rfl (by kernel_rfl) (by kernel_rfl) (by kernel_rfl) (fun _ _ _ h => h) (Or.inl ⟨by rfl, ?_⟩) ⟨fun e => by omega, fun e => by omega⟩ ?_
            · intro w' hs
              clear hs
              go_simp
            try simp only [Act.put, List.setIfInBounds_toArray, List.set_cons_zero, List.set_cons_succ]
            refine wpAnyE_take (i := 12) (oi := { dst := some 53, op := Op.extract (.tmp 41) 1, type := _, pos := _, after := _, guard := _ }) (v := .bool false) rfl (by kernel_rfl) (by kernel_rfl) (by kernel_rfl) (fun _ _ _ h => h) (Or.inl ⟨by rfl, ?_⟩) ⟨fun e => by omega, fun e => by omega⟩ ?_
            · intro w' hs
              clear hs
              go_simp
            try simp only [Act.put, List.setIfInBounds_toArray, List.set_cons_zero, List.set_cons_succ]
            refine wpAnyE_take (i := 13) (oi := { dst := some 7, op := Op.assign (.tmp 52), type := _, pos := _, after := _, guard := _ }) (v := .slice none 0 0) rfl (by kernel_rfl) (by kernel_rfl) (by kernel_rfl) (fun _ _ _ h => h) (Or.inl ⟨by rfl, ?_⟩) ⟨fun e => by omega, fun e => by omega⟩ ?_
            · intro w' hs
              clear hs
              go_simp
            try simp only [Act.put, List.setIfInBounds_toArray, List.set_cons_zero, List.set_cons_succ]
            refine wpAnyE_take (i := 14) (oi := { dst := some 8, op := Op.assign (.tmp 53), type := _, pos := _, after := _, guard := _ }) (v := .bool false) rfl (by kernel_rfl) (by kernel_rfl) (by kernel_rfl) (fun _ _ _ h => h) (Or.inl ⟨by rfl, ?_⟩) ⟨fun e => by omega, fun e => by omega⟩ ?_
            · intro w' hs
              clear hs
              go_simp
            try simp only [Act.put, List.setIfInBounds_toArray, List.set_cons_zero, List.set_cons_succ]
            refine wpAnyE_done (by kernel_rfl) ?_ _
            go_wp2_with fail
            go_meet
            exact ⟨_, _, rfl, rfl, HE⟩
          · have hpos : 0 < ts.length := List.length_pos_iff.2 h0
            have HSo := Lib.hid (copiedT_some (rowX xs) b o ts.length ca5 C lf2 wc.drew hpos (by have := HB.out; omega) (by have := HB.out; have := HN.out.2.2.2.2.2; omega) (by have := HB.out; have := HN.out.2.2.2.2.2; omega) HN.out.2.2.2.2.1.drew (fun W hk => by
              have hB : Below w0.heap.size w0 W := HCo.out.below.trans ((HN.out.2.2.1.trans ((Keeps.drew [C, pb] wc).trans (hk) (by simp)) (by simp)).toBelow _ HCo.out.below.size (by
                have h1 := HCo.out.clo
                have h2 := HCo.out.clt
                have h3 := (HCo.out.pend _ (List.mem_append_right _ (List.mem_singleton.2 rfl))).low
                simp only at h3
                simp
                omega))
              exact cloneT_any xs b o ts.length ca5 W hxl hpos (by have := HB.out; omega) (Nat.lt_of_lt_of_le hb hB.size) (fun j u hj => (hB.cell hb).trans (hcell j u hj)) (fun x hx => (hxt x hx).frame (Nat.le_refl _) hB)))
            have HNx : Hid (∀ (g : Nat) (w5 : World), wc.drew.heap.size ≤ g → (∃ ds, Has w5 g 25 ds ∧ ds.take (rowX xs).length = rowX xs ∧ (rowX xs).length ≤ ds.length) → Keeps [C] wc.drew w5 → Has w5 C 47 [.int .i64 ((lf2 - ts.length * 56 : Nat) : Int), .bool false, .map none, .map none] → ArgedAt wc w5 C lf2 (lf2 - ts.length * 56) xs (.slice (some ⟨g, 0, none⟩) ts.length ts.length)) := Lib.hid (by
              rintro g w5 hg ⟨es, h1, h2, -⟩ hk hc
              rw [← hxl]
              exact ⟨.inr ⟨g, es, rfl, hg, h1, h2⟩, ⟨_, _, rfl⟩, (Keeps.drew [C] wc).trans hk (by simp), by rw [hxl]; exact hc, by omega, Nat.sub_le _ _⟩)
            clear hxt hxs hxl h0 hpos hb hcell
            refine region_E (S := S2 4 (fun W => W.cell? ⟨C, 2, none⟩ = some (.map none)) 8 (fun W => W.cell? ⟨pb, po + 2, none⟩ = some (.slice (some ⟨b, o, none⟩) ts.length ca5))) (by kernel_rfl) ?_
            have k2 : wc.drew.cell? ⟨C, 2, none⟩ = some (.map none) := x2
            have k1 : wc.drew.cell? ⟨pb, po + 2, none⟩ = some (.slice (some ⟨b, o, none⟩) ts.length ca5) := y2
            refine wpAnyE_take (i := 0) (oi := { dst := some 42, op := Op.move (.tmp 0), type := _, pos := _, after := _, guard := _ }) (v := .pointer (some ⟨C, 0, none⟩)) rfl (by kernel_rfl) (by kernel_rfl) (by kernel_rfl) (fun _ _ _ h => h) (Or.inl ⟨by rfl, ?_⟩) ⟨fun e => by omega, fun e => by omega⟩ ?_
            · intro w' hs
              clear hs
              go_simp
            try simp only [Act.put, List.setIfInBounds_toArray, List.set_cons_zero, List.set_cons_succ]
            refine wpAnyE_take (i := 1) (oi := { dst := some 43, op := Op.move (.tmp 0), type := _, pos := _, after := _, guard := _ }) (v := .pointer (some ⟨C, 0, none⟩)) rfl (by kernel_rfl) (by kernel_rfl) (by kernel_rfl) (fun _ _ _ h => h) (Or.inl ⟨by rfl, ?_⟩) ⟨fun e => by omega, fun e => by omega⟩ ?_
            · intro w' hs
              clear hs
              go_simp
            try simp only [Act.put, List.setIfInBounds_toArray, List.set_cons_zero, List.set_cons_succ]
            refine wpAnyE_take (i := 2) (oi := { dst := some 44, op := Op.nilCheck (.tmp 43), type := _, pos := _, after := _, guard := _ }) (v := .pointer (some ⟨C, 0, none⟩)) rfl (by kernel_rfl) (by kernel_rfl) (by kernel_rfl) (fun _ _ _ h => h) (Or.inl ⟨by rfl, ?_⟩) ⟨fun e => by omega, fun e => by omega⟩ ?_
            · intro w' hs
              clear hs
              go_simp
            try simp only [Act.put, List.setIfInBounds_toArray, List.set_cons_zero, List.set_cons_succ]
            refine wpAnyE_take (i := 3) (oi := { dst := some 45, op := Op.fieldAddr 47 (.tmp 44) 2, type := _, pos := _, after := _, guard := _ }) (v := .pointer (some ⟨C, 2, none⟩)) rfl (by kernel_rfl) (by kernel_rfl) (by kernel_rfl) (fun _ _ _ h => h) (Or.inl ⟨by rfl, ?_⟩) ⟨fun e => by omega, fun e => by omega⟩ ?_
            · intro w' hs
              clear hs
              go_simp
            try simp only [Act.put, List.setIfInBounds_toArray, List.set_cons_zero, List.set_cons_succ]
            refine wpAnyE_take (i := 4) (oi := { dst := some 46, op := Op.load 44 (.tmp 45), type := _, pos := _, after := _, guard := _ }) (v := .map none) rfl (by kernel_rfl) (by kernel_rfl) (by kernel_rfl) (fun _ _ _ h => h) (Or.inl ⟨by rfl, ?_⟩) ⟨fun _ => k2, fun e => by omega⟩ ?_
            · intro w' hs
              have s0 := hs.1 rfl
              go_simp
            try simp only [Act.put, List.setIfInBounds_toArray, List.set_cons_zero, List.set_cons_succ]
            refine wpAnyE_take (i := 5) (oi := { dst := some 47, op := Op.move (.tmp 6), type := _, pos := _, after := _, guard := _ }) (v := .pointer (some ⟨pb, po, none⟩)) rfl (by kernel_rfl) (by kernel_rfl) (by kernel_rfl) (fun _ _ _ h => h) (Or.inl ⟨by rfl, ?_⟩) ⟨fun e => by omega, fun e => by omega⟩ ?_
            · intro w' hs
              clear hs
              go_simp
            try simp only [Act.put, List.setIfInBounds_toArray, List.set_cons_zero, List.set_cons_succ]
            refine wpAnyE_take (i := 6) (oi := { dst := some 48, op := Op.nilCheck (.tmp 47), type := _, pos := _, after := _, guard := _ }) (v := .pointer (some ⟨pb, po, none⟩)) rfl (by kernel_rfl) (by kernel_rfl) (by kernel_rfl) (fun _ _ _ h => h) (Or.inl ⟨by rfl, ?_⟩) ⟨fun e => by omega, fun e => by omega⟩ ?_
            · intro w' hs
              clear hs
              go_simp
            try simp only [Act.put, List.setIfInBounds_toArray, List.set_cons_zero, List.set_cons_succ]
            refine wpAnyE_take (i := 7) (oi := { dst := some 49, op := Op.fieldAddr 25 (.tmp 48) 2, type := _, pos := _, after := _, guard := _ }) (v := .pointer (some ⟨pb, po + 2, none⟩)) rfl (by kernel_rfl) (by kernel_rfl) (by kernel_rfl) (fun _ _ _ h => h) (Or.inl ⟨by rfl, ?_⟩) ⟨fun e => by omega, fun e => by omega⟩ ?_
            · intro w' hs
              clear hs
              go_simp
            try simp only [Act.put, List.setIfInBounds_toArray, List.set_cons_zero, List.set_cons_succ]
            refine wpAnyE_take (i := 8) (oi := { dst := some 50, op := Op.load 23 (.tmp 49), type := _, pos := _, after := _, guard := _ }) (v := .slice (some ⟨b, o, none⟩) ts.length ca5) rfl (by kernel_rfl) (by kernel_rfl) (by kernel_rfl) (fun _ _ _ h => h) (Or.inl ⟨by rfl, ?_⟩) ⟨fun e => by omega, fun _ => k1⟩ ?_
            · intro w' hs
              have s0 := hs.2 rfl
              go_simp
            try simp only [Act.put, List.setIfInBounds_toArray, List.set_cons_zero, List.set_cons_succ]
            refine wpAnyE_ready (rs := [9]) (by kernel_rfl) (by simp) ?_
            refine AllReadyE.cons (o := { dst := some 51, op := Op.call { callee := .value (.func 77), args := #[.tmp 42, .tmp 46, .tmp 50, .const (.int .i64 56)], argTypes := _ }, type := _, pos := _, after := _, guard := _ }) rfl (fun K hK => ?_) AllReadyE.nil
            go_simp
            refine (HSo.out).mono ?_
            rintro e w5 ⟨g, rfl, hg, hes, hk5, hc5⟩
            have HE := Lib.hid (HNx.out g w5 hg hes hk5 hc5)
            clear hg hes hk5 hc5
            refine hK.out _ _ (pres2 (.inl (by kernel_rfl)) (.inl (by kernel_rfl))) ?_
            clear hK K
            try simp only [Act.put, List.setIfInBounds_toArray, List.set_cons_zero, List.set_cons_succ]
            refine wpAnyE_take (i := 10) (oi := { dst := some 41, op := Op.move (.tmp 51), type := _, pos := _, after := _, guard := _ }) (v := .tuple #[.slice (some ⟨g, 0, none⟩) ts.length ts.length, .bool true]) rfl (by kernel_rfl) (by kernel_rfl) (by kernel_rfl) (fun _ _ _ h => h) (Or.inl ⟨by rfl, ?_⟩) ⟨fun e => by omega, fun e => by omega⟩ ?_
            · intro w' hs
              clear hs
              go_simp
            try simp only [Act.put, List.setIfInBounds_toArray, List.set_cons_zero, List.set_cons_succ]
            refine wpAnyE_take (i := 11) (oi := { dst := some 52, op := Op.extract (.tmp 41) 0, type := _, pos := _, after := _, guard := _ }) (v := .slice (some ⟨g, 0, none⟩) ts.length ts.length) rfl (by kernel_rfl) (by kernel_rfl) (by kernel_rfl) (fun _ _ _ h => h) (Or.inl ⟨by rfl, ?_⟩) ⟨fun e => by omega, fun e => by omega⟩ ?_
            · intro w' hs
              clear hs
              go_simp
            try simp only [Act.put, List.setIfInBounds_toArray, List.set_cons_zero, List.set_cons_succ]
            refine wpAnyE_take (i := 12) (oi := { dst := some 53, op := Op.extract (.tmp 41) 1, type := _, pos := _, after := _, guard := _ }) (v := .bool true) rfl (by kernel_rfl) (by kernel_rfl) (by kernel_rfl) (fun _ _ _ h => h) (Or.inl ⟨by rfl, ?_⟩) ⟨fun e => by omega, fun e => by omega⟩ ?_
            · intro w' hs
              clear hs
              go_simp
            try simp only [Act.put, List.setIfInBounds_toArray, List.set_cons_zero, List.set_cons_succ]
            refine wpAnyE_take (i := 13) (oi := { dst := some 7, op := Op.assign (.tmp 52), type := _, pos := _, after := _, guard := _ }) (v := .slice (some ⟨g, 0, none⟩) ts.length ts.length) rfl (by kernel_rfl) (by kernel_rfl) (by kernel_rfl) (fun _ _ _ h => h) (Or.inl ⟨by rfl, ?_⟩) ⟨fun e => by omega, fun e => by omega⟩ ?_
            · intro w' hs
              clear hs
              go_simp
            try simp only [Act.put, List.setIfInBounds_toArray, List.set_cons_zero, List.set_cons_succ]
            refine wpAnyE_take (i := 14) (oi := { dst := some 8, op := Op.assign (.tmp 53), type := _, pos := _, after := _, guard := _ }) (v := .bool true) rfl (by kernel_rfl) (by kernel_rfl) (by kernel_rfl) (fun _ _ _ h => h) (Or.inl ⟨by rfl, ?_⟩) ⟨fun e => by omega, fun e => by omega⟩ ?_
            · intro w' hs
              clear hs
              go_simp
            try simp only [Act.put, List.setIfInBounds_toArray, List.set_cons_zero, List.set_cons_succ]
            refine wpAnyE_done (by kernel_rfl) ?_ _
            go_wp2_with fail
            go_meet
            exact ⟨_, _, rfl, rfl, HE⟩
        case rest =>
          rename World => wy
          obtain ⟨va9, lf3, rfl, rfl, HA9⟩ := hcut
          obtain ⟨a9, c9, hv9⟩ := HA9.out.2.1
          rw [hxl] at hv9
          subst hv9
          have HLd := Lib.hid (laid_of hdC HDs.out.1.lt (Nat.lt_of_lt_of_le HCo.out.clt HCo.out.keeps.size) HN.out HA9.out)
          have HSt := Lib.hid (HCo.out.step HDs.out.1 HDs.out.2 hxs hxt (fun x hx => HVa.out _ (by rw [← hxs]; exact List.mem_map_of_mem hx)) HB.out.1 (by have := HB.out; omega) HLd.out)
          have hg5 : ∀ g, v5.ownBlock = some g → g ≠ C ∧ g ≠ pb ∧ g < wr.heap.size ∧ ¬ D g ∧ g ≠ w.heap.size + 1 := by
            intro g hg
            have h1 := own_lt HRow.out g hg
            have h2 := HCo.out.clt
            have h3 := HFar.out g (by rw [hv5] at hg; exact hg)
            refine ⟨by omega, fun e => h3.1 (e ▸ HCo.out.comp.pd _ (List.mem_append_right _ (List.mem_singleton.2 rfl))), h1.2, h3⟩
          have HRz := Lib.hid (own_keeps HRow.out HLd.out.keeps (fun g hg => by have := hg5 g hg; simp; omega))
          have HFz : Hid (∀ g, v5.ownBlock = some g → ¬ (D g ∨ vn9.ownBlock = some g ∨ (Value.slice a9 ts.length c9).ownBlock = some g) ∧ g ≠ w.heap.size + 1) := Lib.hid (by
            intro g hg
            have h1 := hg5 g hg
            refine ⟨?_, h1.2.2.2.2⟩
            rintro (h | h)
            · exact h1.2.2.2.1 h
            · have := (new_low HLd.out.names HLd.out.args g h).1
              omega)
          have HOw := Lib.hid (kids_owe (r := r) HLd.out.args)
          have HCz : Hid (v5.ownBlock = some g5 ∧ g5 ≠ C ∧ w.heap.size ≤ g5) := Lib.hid ⟨by rw [hv5]; rfl, (hg5 g5 (by rw [hv5]; rfl)).1, (own_lt HRow.out g5 (by rw [hv5]; rfl)).1⟩
          have HAr := Lib.hid HLd.out.args
          have p7 := (HN.out.2.2.2.1.keeps HA9.out.2.2.1 (by simp; exact hdC)).cell (po + 2)
          have p8 := (HN.out.2.2.2.1.keeps HA9.out.2.2.1 (by simp; exact hdC)).frozen (po + 2)
          have p9 := (HN.out.2.2.2.1.keeps HA9.out.2.2.1 (by simp; exact hdC)).lt
          rw [List.getElem?_set_ne (by omega), HD2.out] at p7
          clear x2 y2 x3 y1 hg5 hxr HTys HStr HCp HDs HCo HFar HD2 HN HA9 HLd HRow HVa hxt
          rcases HAr.out with ⟨hx0, hv0⟩ | ⟨g9, es9, hv0, -⟩
          · injection hv0 with e1 e2 e3
            subst e1 e3 hx0
            obtain rfl : ts = [] := by simpa using hxs.symm
            obtain ⟨D2, HSt2, HFz2⟩ : ∃ D2, Hid (Core w0 w (wy.setCell ⟨pb, po + 2, none⟩ (.slice none 0 0)) C t l D2 lf3) ∧ Hid (∀ g, v5.ownBlock = some g → ¬ D2 g ∧ g ≠ w.heap.size + 1) := ⟨_, Lib.hid (by have h := HSt.out; rw [show kidsOf (.slice none ([] : List Ty).length 0) r [] = [] from rfl, List.append_nil] at h; exact h), HFz⟩
            go_wp2_with fail
            go_roundg (gk - 1)
            case measure => have := HB.out; omega
            case rel =>
              refine ⟨_, l, D2, lf3, rfl, by have := HB.out; omega, by omega, Lib.hid ⟨HSt2.out, ?_, ?_⟩⟩
              · have := HRz.out
                rw [hv5, hn] at this
                rw [hn]
                exact this
              · have := HFz2.out
                rw [hv5, hn] at this
                exact this
          · injection hv0 with e1 e2 e3
            rw [hxl] at e3
            subst e1 e3
            have HKg : Hid (∀ k, k < ts.length → ∃ x : Ty × Value × Value, (kidsOf (.slice (some ⟨g9, 0, none⟩) ts.length ts.length) r xs)[k]? = some ⟨g9, k * 3, r, x.1, x.2.1, x.2.2⟩) := Lib.hid (by
              intro k hk
              have hk2 : k < xs.length := by omega
              refine ⟨xs[k], ?_⟩
              rw [kidsOf_some, List.getElem?_map, List.getElem?_zipIdx, List.getElem?_eq_getElem hk2]
              simp)
            have HKl : Hid ((kidsOf (.slice (some ⟨g9, 0, none⟩) ts.length ts.length) r xs).length = ts.length) := Lib.hid (by
              rw [kidsOf_some, List.length_map, List.length_zipIdx, hxl])
            have HOs : Hid (owe (kidsOf (.slice (some ⟨g9, 0, none⟩) ts.length ts.length) r xs) = sumF r ts) := Lib.hid (by
              rw [HOw.out, hxs, sumF_sum])
            clear HOw HAr
            obtain ⟨D2, HSt2, HFz2⟩ : ∃ D2, Hid (Core w0 w (wy.setCell ⟨pb, po + 2, none⟩ (.slice (some ⟨g9, 0, none⟩) ts.length ts.length)) C t (l ++ kidsOf (.slice (some ⟨g9, 0, none⟩) ts.length ts.length) r xs) D2 lf3) ∧ Hid (∀ g, v5.ownBlock = some g → ¬ D2 g ∧ g ≠ w.heap.size + 1) := ⟨_, HSt, HFz⟩
            clear HSt HFz
            generalize kidsOf (.slice (some ⟨g9, 0, none⟩) ts.length ts.length) r xs = kids at HKg HKl HOs HSt2
            have HB2 : Hid (owe l + 1 + sumF r ts ≤ gk) := Lib.hid HB.out.2.2.2.2
            have HB3 : Hid (ts.length ≤ 10000) := Lib.hid HB.out.2.1
            clear HB hxs hxl
            generalize sumF r ts = owed at HOs HB2
            obtain ⟨m, hm⟩ : ∃ m, ts.length = m := ⟨_, rfl⟩
            rw [hm] at HKg HKl HB3 HSt2 HRz
            rw [hm]
            have HN := Lib.hid hn
            have HV5 := Lib.hid hv5
            clear hm hn hv5
            have hm9 : m ≤ 10000 := HB3.out
            go_wp2_with fail
            generalize (wy.setCell ⟨pb, po + 2, none⟩ (.slice (some ⟨g9, 0, none⟩) m m)) = wz at HSt2 HRz ⊢
            have HLow : Hid (w.heap.size + 1 < wz.heap.size ∧ ∀ k, D2 k → k < wz.heap.size) := Lib.hid ⟨HSt2.out.res.lt, fun k hk => HSt2.out.comp.low k hk⟩
            clear p7 p8 p9
            go_loopw [62, 5] (fun s62 s5 wl => ∃ (k : Nat) (v : Value), s62 = .int .i64 (k : Int) ∧ k ≤ m ∧ s5 = v ∧ Hid (KidRow w wz wl C g5 D2 v (l ++ kids.take k))) (fun s62 _ _ => m - (intOf s62).toNat)
            case atStart => exact ⟨0, _, rfl, Nat.zero_le _, rfl, Lib.hid ⟨by rw [List.take_zero, List.append_nil]; have h := HRz.out; rw [HV5.out] at h; rw [HN.out] at h ⊢; exact h, by have h := HFz2.out; rw [HV5.out, HN.out] at h; exact h, Keeps.refl _ _, .inl rfl⟩⟩
            case round =>
              obtain ⟨k, v, rfl, hk, rfl, HKR⟩ := hrel
              by_cases hlt : k < m
              · have hi1 : (k : Int) < (m : Int) := by omega
                obtain ⟨x, hx⟩ := HKg.out k hlt
                obtain ⟨v2, W2, hrun, hKR2⟩ := HKR.out.push ⟨g9, k * 3, r, x.1, x.2.1, x.2.2⟩ (by rw [List.length_append, List.length_take, HN.out]; omega) HLow.out.1 HLow.out.2
                rw [List.append_assoc, ← take_snoc hx] at hKR2
                have HK2 := Lib.hid hKR2
                clear hKR2 hx HKR
                simp only at hrun
                have HRun := Lib.hid hrun
                clear hrun
                go_wp2_with (at_builtin; refine wpList_append_run (by rfl) (.tmp 65) (.tmp 69) 61 rfl _ _ _ _ rfl rfl HRun.out ?_)
                go_roundw
                case rel => exact ⟨_, _, _, _, _, _, _, _, _, _, _, _, ⟨k + 1, _, by go_num, by omega, rfl, HK2⟩, rfl⟩
                case measure => simp [intOf]; omega
              · have hkm : k = m := by omega
                subst hkm
                have hKR := HKR.out
                rw [← HKl.out, List.take_length] at hKR
                have HEnd := Lib.hid (CopyAt.kids HSt2.out hKR ⟨HCz.out.2.1, HCz.out.2.2, HFz2.out g5 HCz.out.1⟩)
                clear hKR HKR
                go_wp2_with fail
                go_roundg (gk - 1)
                case measure => have := HB2.out; omega
                case rel => exact ⟨_, _, _, lf3, rfl, by have := HB2.out; rw [owe_app, HOs.out]; omega, by omega, HEnd⟩
end TyD
end Go.Proofs.YthcdbmbimdkcfaaDoor
