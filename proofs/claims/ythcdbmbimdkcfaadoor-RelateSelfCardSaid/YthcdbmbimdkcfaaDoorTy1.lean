/- Types that came in: trees in memory. -/
import Derived.Test.YthcdbmbimdkcfaaDoorShellFlat
import Derived.Test.YthcdbmbimdkcfaaDoorShellCells
import Derived.Test.YthcdbmbimdkcfaaDoorObj
namespace Go.Proofs.YthcdbmbimdkcfaaDoor
open Go.RowKit Go.WideShapes Go.ChangeShapes Go.Deep ObjM Shell
namespace TyD

/-- A type. -/
inductive Ty where
  | mk (kind : Int) (names : List ByteArray) (args : List Ty)
namespace Ty
def kind : Ty → Int | .mk k _ _ => k
def names : Ty → List ByteArray | .mk _ ns _ => ns
def args : Ty → List Ty | .mk _ _ ls => ls
theorem ind {P : Ty → Prop} (h : ∀ k ns ls, (∀ a ∈ ls, P a) → P (.mk k ns ls)) : ∀ t, P t
  | .mk k ns ls => h k ns ls fun a _ => ind h a
theorem eta (t : Ty) : t = .mk t.kind t.names t.args := by cases t; rfl
end Ty
theorem addr_at (b o n : Nat) : (⟨b, o, none⟩ : Addr).add n = ⟨b, o + n, none⟩ := by
  unfold Addr.add
  split
  · rename_i h; subst h; rfl
  · rfl
theorem cell_spot {w : World} {a : Addr} {v : Value} (h : w.cell? a = some v) : a.spot = none ∧ a.block < w.heap.size := by
  unfold World.cell? at h
  split at h
  · rename_i c e f hb
    split at h
    · cases h
    · rename_i hs
      exact ⟨by cases hsp : a.spot <;> simp_all, (Array.getElem?_eq_some_iff.1 hb).1⟩
  · cases h
theorem list_of {α : Type} {R : Nat → α → Prop} : ∀ (n : Nat), (∀ i, i < n → ∃ a, R i a) → ∃ l : List α, l.length = n ∧ ∀ (i : Nat) a, l[i]? = some a → R i a
  | 0, _ => ⟨[], rfl, fun i a h => by simp at h⟩
  | n + 1, h => by
    obtain ⟨l, hl, hR⟩ := list_of n fun i hi => h i (by omega)
    obtain ⟨a, ha⟩ := h n (by omega)
    refine ⟨l ++ [a], by simp [hl], fun i x hx => ?_⟩
    rcases Nat.lt_or_ge i l.length with hi | hi
    · rw [List.getElem?_append_left hi] at hx
      exact hR i x hx
    · rw [List.getElem?_append_right hi] at hx
      have hi2 : i - l.length = 0 := by
        have := (List.getElem?_eq_some_iff.1 hx).1
        simp at this
        omega
      rw [hi2] at hx
      simp at hx
      subst hx
      have : i = n := by omega
      subst this
      exact ha
/-- Texts that lie in memory. -/
def StrsAt (W : World) (v : Value) (l : List ByteArray) : Prop :=
  ∃ av cap, v = .slice av l.length cap ∧ l.length ≤ cap ∧ cap ≤ 9223372036854775807 ∧ (av = none → cap = 0) ∧ (l = [] ∨ ∃ g o, av = some ⟨g, o, none⟩ ∧ g < W.heap.size ∧ ∀ (i : Nat) x, l[i]? = some x → W.cell? ⟨g, o + i, none⟩ = some (.string x))
theorem StrsAt.below {B : Nat} {W W' : World} {v : Value} {l : List ByteArray} (h : StrsAt W v l) (hB : W.heap.size ≤ B) (hb : Below B W W') : StrsAt W' v l := by
  obtain ⟨av, cap, rfl, hc, hc2, hc3, h1⟩ := h
  refine ⟨av, cap, rfl, hc, hc2, hc3, ?_⟩
  rcases h1 with h1 | ⟨g, o, h1, h2, h3⟩
  · exact .inl h1
  · exact .inr ⟨g, o, h1, Nat.lt_of_lt_of_le h2 hb.size, fun i x hx => (hb.cell (p := ⟨g, _, none⟩) (show g < B by omega)).trans (h3 i x hx)⟩
theorem StrsAt.at {W : World} {av : Option Addr} {cap n : Nat} {l : List ByteArray} (h : StrsAt W (.slice av n cap) l) (k : Nat) (hk : k < l.length) : ∃ g o, av = some ⟨g, o, none⟩ ∧ g < W.heap.size ∧ W.cell? ⟨g, o + k, none⟩ = some (.string l[k]) := by
  obtain ⟨av2, cap2, e, _, _, _, h1⟩ := h
  injection e with e1 e2 e3
  subst e1
  rcases h1 with rfl | ⟨g, o, h1, h2, h3⟩
  · simp at hk
  · exact ⟨g, o, h1, h2, h3 k _ (List.getElem?_eq_getElem hk)⟩
theorem StrsAt.shape {W : World} {v : Value} {l : List ByteArray} (h : StrsAt W v l) : ∃ av cap, v = .slice av l.length cap := by
  obtain ⟨av, cap, e, _⟩ := h
  exact ⟨av, cap, e⟩
theorem StrsAt.nil (W : World) : StrsAt W (.slice none 0 0) [] := ⟨none, 0, rfl, by simp, by simp, fun _ => rfl, .inl rfl⟩
/-- A row of types: each one's kind, and the values of its two lists. -/
def ArgsAt (W : World) (v : Value) (l : List Ty) (vns vas : Nat → Value) : Prop :=
  ∃ av cap, v = .slice av l.length cap ∧ l.length ≤ cap ∧ cap ≤ 9223372036854775807 ∧ (av = none → cap = 0) ∧ (l = [] ∨ ∃ b o, av = some ⟨b, o, none⟩ ∧ b < W.heap.size ∧
    ∀ (i : Nat) t, l[i]? = some t → W.cell? ⟨b, o + i * 3, none⟩ = some (.int .i64 t.kind) ∧ W.cell? ⟨b, o + i * 3 + 1, none⟩ = some (vns i) ∧ W.cell? ⟨b, o + i * 3 + 2, none⟩ = some (vas i))
theorem ArgsAt.below {B : Nat} {W W' : World} {v : Value} {l : List Ty} {vns vas : Nat → Value} (h : ArgsAt W v l vns vas) (hB : W.heap.size ≤ B) (hb : Below B W W') : ArgsAt W' v l vns vas := by
  obtain ⟨av, cap, rfl, hc, hc2, hc3, h1⟩ := h
  refine ⟨av, cap, rfl, hc, hc2, hc3, ?_⟩
  rcases h1 with h1 | ⟨g, o, h1, h2, h3⟩
  · exact .inl h1
  · refine .inr ⟨g, o, h1, Nat.lt_of_lt_of_le h2 hb.size, fun i n hn => ?_⟩
    obtain ⟨q0, q1, q2⟩ := h3 i n hn
    have hg : g < B := by omega
    exact ⟨(hb.cell (p := ⟨g, _, none⟩) hg).trans q0, (hb.cell (p := ⟨g, _, none⟩) hg).trans q1, (hb.cell (p := ⟨g, _, none⟩) hg).trans q2⟩
/-- A type whose two lists have these values. -/
inductive TyAt (W : World) : Value → Value → Ty → Prop
  | mk (k : Int) (ns : List ByteArray) (ls : List Ty) (vn va : Value) (vns vas : Nat → Value)
      (hn : StrsAt W vn ns) (ha : ArgsAt W va ls vns vas) (h : ∀ (i : Nat) t, ls[i]? = some t → TyAt W (vns i) (vas i) t) : TyAt W vn va (.mk k ns ls)
theorem TyAt.frame {B : Nat} {W W' : World} {vn va : Value} {t : Ty} (h : TyAt W vn va t) (hB : W.heap.size ≤ B) (hb : Below B W W') : TyAt W' vn va t := by
  induction h with
  | mk k ns ls vn va vns vas hn ha _ ih => exact .mk k ns ls vn va vns vas (hn.below hB hb) (ha.below hB hb) ih
/-- Types in a row. -/
def TysAt (W : World) (va : Value) (ls : List Ty) : Prop := ∃ vns vas : Nat → Value, ArgsAt W va ls vns vas ∧ ∀ (i : Nat) t, ls[i]? = some t → TyAt W (vns i) (vas i) t
theorem TysAt.below {B : Nat} {W W' : World} {va : Value} {ls : List Ty} (h : TysAt W va ls) (hB : W.heap.size ≤ B) (hb : Below B W W') : TysAt W' va ls := by
  obtain ⟨vns, vas, h1, h2⟩ := h
  exact ⟨vns, vas, h1.below hB hb, fun i t hi => (h2 i t hi).frame hB hb⟩
theorem TyAt.parts {W : World} {vn va : Value} {k : Int} {ns : List ByteArray} {ls : List Ty} (h : TyAt W vn va (.mk k ns ls)) : StrsAt W vn ns ∧ TysAt W va ls := by
  cases h with
  | mk _ _ _ _ _ vns vas hn ha h => exact ⟨hn, vns, vas, ha, h⟩
theorem TyAt.of {W : World} {vn va : Value} {k : Int} {ns : List ByteArray} {ls : List Ty} (hn : StrsAt W vn ns) (ha : TysAt W va ls) : TyAt W vn va (.mk k ns ls) := by
  obtain ⟨vns, vas, h1, h2⟩ := ha
  exact .mk _ _ _ _ _ vns vas hn h1 h2
theorem TysAt.shape {W : World} {v : Value} {l : List Ty} (h : TysAt W v l) : ∃ av cap, v = .slice av l.length cap := by
  obtain ⟨_, _, ⟨av, cap, e, _⟩, _⟩ := h
  exact ⟨av, cap, e⟩
theorem TyAt.shape {W : World} {vn va : Value} {t : Ty} (h : TyAt W vn va t) : ∃ an cn aa ca, vn = .slice an t.names.length cn ∧ va = .slice aa t.args.length ca := by
  obtain ⟨k, ns, ls⟩ := t
  obtain ⟨h1, h2⟩ := h.parts
  obtain ⟨an, cn, e1⟩ := h1.shape
  obtain ⟨aa, ca, e2⟩ := h2.shape
  exact ⟨an, cn, aa, ca, e1, e2⟩
theorem TysAt.nil (W : World) : TysAt W (.slice none 0 0) [] := ⟨fun _ => Value.tuple #[], fun _ => Value.tuple #[], ⟨none, 0, rfl, by simp, by simp, fun _ => rfl, .inl rfl⟩, fun i t h => by simp at h⟩
theorem TysAt.at {W : World} {av : Option Addr} {cap n : Nat} {l : List Ty} (h : TysAt W (.slice av n cap) l) (k : Nat) (hk : k < l.length) :
    ∃ b o vn va, av = some ⟨b, o, none⟩ ∧ b < W.heap.size ∧ W.cell? ⟨b, o + k * 3, none⟩ = some (.int .i64 l[k].kind) ∧ W.cell? ⟨b, o + k * 3 + 1, none⟩ = some vn ∧ W.cell? ⟨b, o + k * 3 + 2, none⟩ = some va ∧ TyAt W vn va l[k] := by
  obtain ⟨vns, vas, ⟨av2, cap2, e, _, _, _, h1⟩, h2⟩ := h
  injection e with e1 e2 e3
  subst e1
  rcases h1 with rfl | ⟨g, o, h1, h3, h4⟩
  · simp at hk
  · obtain ⟨c0, c1, c2⟩ := h4 k _ (List.getElem?_eq_getElem hk)
    exact ⟨g, o, _, _, h1, h3, c0, c1, c2, h2 k _ (List.getElem?_eq_getElem hk)⟩
/-- What weighs no more than the form's reach. -/
inductive TyOk : Ty → Prop
  | mk (k : Int) (ns : List ByteArray) (ls : List Ty) (hk : -9223372036854775808 ≤ k ∧ k ≤ 9223372036854775807) (hn : ns.length ≤ 140737488355328) (hs : ∀ s ∈ ns, s.size ≤ 140737488355328) (ha : ls.length ≤ 140737488355328) (h : ∀ a ∈ ls, TyOk a) : TyOk (.mk k ns ls)
theorem TyOk.parts {k : Int} {ns : List ByteArray} {ls : List Ty} (h : TyOk (.mk k ns ls)) : (-9223372036854775808 ≤ k ∧ k ≤ 9223372036854775807) ∧ ns.length ≤ 140737488355328 ∧ (∀ s ∈ ns, s.size ≤ 140737488355328) ∧ ls.length ≤ 140737488355328 ∧ ∀ a ∈ ls, TyOk a := by
  cases h with
  | mk _ _ _ hk hn hs ha h => exact ⟨hk, hn, hs, ha, h⟩
/-- A type by value. -/
def TyVal (vn va : Value) (t : Ty) : Value := .agg #[.int .i64 t.kind, vn, va]
section
variable {H : Type} {enc : TypeId × Value → H}
section
variable {P : Program} {w : World} {base : Nat} {spare : Nat → Bool} {held : Bool}
theorem open_slice_sz {t e : TypeId} {fuel : Nat} {cs : List Value} {x : DataW H × List MemPlace} (ht : P.underlying t = some (.slice e)) (h : DataW.trod enc P w base spare held fuel t cs = some x) :
    cs = [.slice none 0 0] ∨
    ∃ (a : Addr) (len cap : Nat), cs = [.slice (some a) len cap] ∧ len ≤ cap ∧ cap ≤ maxLen ∧ (∃ k, len ≤ k ∧ k * P.bytesOf e ∈ x.1.weights P t) ∧
      ∀ i, i < len → ∃ (cs' : List Value) (y : DataW H × List MemPlace) (n : Nat), cs'.length = P.cellsOf e ∧ (∀ (j : Nat) v, cs'[j]? = some v → w.cell? (a.add (i * P.cellsOf e + j)) = some v) ∧ DataW.trod enc P w base spare held n e cs' = some y ∧
        (∀ n ∈ y.1.weights P e, n ∈ x.1.weights P t) ∧ SizeOf.sizeOf y.1 < SizeOf.sizeOf x.1 := by
  rcases open_slice ht h with h0 | ⟨a, len, cap, m, n, D, Pl, hcs, hb, hl, hm, hmm, hx, hi⟩
  · exact .inl h0.1
  · have hlm : len ≤ m := by rw [hmm]; split <;> omega
    refine .inr ⟨a, len, cap, hcs, hl, hm, ⟨len + (m - len), by omega, ?_⟩, fun i hil => ?_⟩
    · rw [hx]
      simp [DataW.weights, ht]
    have him : i < m := by omega
    obtain ⟨cs', hc, ht'⟩ := hi i him
    obtain ⟨_, hcl, hat⟩ := World.cells?_some hc
    have hmem : D i ∈ (List.range len).map D := List.mem_map.2 ⟨i, by simpa using hil, rfl⟩
    refine ⟨cs', _, _, hcl, fun j v hv => ?_, ht', fun q hq => ?_, ?_⟩
    · have hjl := (List.getElem?_eq_some_iff.1 hv).1
      rw [← Go.Deep.add_add, hat j (by omega), hv]
    · rw [hx]
      simp only [DataW.weights, ht]
      exact List.mem_cons_of_mem _ (List.mem_append_left _ (weightsAll_mem (d := D i) hmem q hq))
    · rw [hx]
      have := List.sizeOf_lt_of_mem hmem
      simp only [DataW.slice.sizeOf_spec]
      omega
theorem field_sz {e : TypeId} {fs : Array Field} {n : Nat} {cs : List Value} {y : DataW H × List MemPlace} (he : P.underlying e = some (.struct fs)) (h : DataW.trod enc P w base spare held n e cs = some y) (j : Nat) (f : Field) (hj : fs[j]? = some f) (o s : Nat) (ho : f.offset = o) (hs : P.cellsOf f.type = s) :
    ∃ (z : DataW H × List MemPlace) (m : Nat), DataW.trod enc P w base spare held m f.type ((cs.drop o).take s) = some z ∧ (∀ q ∈ z.1.weights P f.type, q ∈ y.1.weights P e) ∧ SizeOf.sizeOf z.1 < SizeOf.sizeOf y.1 := by
  obtain ⟨ys, n', hn', hy, hlen, hyl, hf⟩ := DataW.trod_struct he h
  have h1 := hf j f hj
  have hjl : j < fs.size := (Array.getElem?_eq_some_iff.1 hj).1
  have hys : ys[j]? = some (ys[j]'(by omega)) := List.getElem?_eq_getElem (by omega)
  rw [ho, hs] at h1
  refine ⟨_, _, h1.trans hys, fun q hq => ?_, ?_⟩
  · rw [hy]
    simp only [DataW.weights, he]
    refine DataW.weights_mem_each (j := j) (t := f.type) (d := (ys[j]'(by omega)).1) ?_ ?_ q hq
    · rw [List.getElem?_map, Array.getElem?_toList, hj]
      rfl
    · rw [List.getElem?_map, hys]
      rfl
  · rw [hy]
    have := List.sizeOf_lt_of_mem (List.mem_map.2 ⟨_, List.getElem_mem (show j < ys.length by omega), rfl⟩ : (ys[j]'(by omega)).1 ∈ ys.map (·.1))
    simp only [DataW.agg.sizeOf_spec]
    omega
end
theorem strCells : Tryd.prog.cellsOf 9 = 1 := by kernel_rfl
theorem strBytes : Tryd.prog.bytesOf 9 = 16 := by kernel_rfl
theorem tyCellsOf : Tryd.prog.cellsOf 25 = 3 := by kernel_rfl
theorem tyBytesOf : Tryd.prog.bytesOf 25 = 56 := by kernel_rfl
theorem ty_desc : ∃ f0 f1 f2 : Field, Tryd.prog.underlying 25 = some (.struct #[f0, f1, f2]) ∧ (f0.offset = 0 ∧ Tryd.prog.cellsOf f0.type = 1 ∧ f0.type = 3) ∧ (f1.offset = 1 ∧ Tryd.prog.cellsOf f1.type = 1 ∧ f1.type = 22) ∧ (f2.offset = 2 ∧ Tryd.prog.cellsOf f2.type = 1 ∧ f2.type = 23) :=
  ⟨_, _, _, Tryd.underlying25, ⟨by kernel_rfl, by kernel_rfl, by kernel_rfl⟩, ⟨by kernel_rfl, by kernel_rfl, by kernel_rfl⟩, ⟨by kernel_rfl, by kernel_rfl, by kernel_rfl⟩⟩
theorem open_strs {W : World} {b0 : Nat} {sp : Nat → Bool} {v : Value} {fuel : Nat} {x : DataW H × List MemPlace} (hf : DataW.trod enc Tryd.prog W b0 sp true fuel 22 [v] = some x) (hw : ∀ n ∈ x.1.weights Tryd.prog 22, n ≤ reachBytes) :
    ∃ l : List ByteArray, StrsAt W v l ∧ (∀ s ∈ l, s.size ≤ 140737488355328) ∧ l.length ≤ 140737488355328 := by
  have hrb : reachBytes ≤ 140737488355328 := by decide
  rcases open_slice_sz Tryd.underlying22 hf with h | ⟨a, len, cap, h, hlc, hcm, ⟨kk, hkk, hkw⟩, hc⟩
  · simp at h
    subst h
    exact ⟨[], StrsAt.nil W, by simp, by simp⟩
  · simp at h
    subst h
    have each : ∀ i, i < len → ∃ x : ByteArray, W.cell? (a.add i) = some (.string x) ∧ x.size ≤ 140737488355328 := by
      intro i hi
      obtain ⟨cs, y, n, hl, hat, ht, hww, -⟩ := hc i hi
      rw [strCells] at hl hat
      match cs, hl, ht with
      | [c], _, ht =>
        obtain ⟨s, e1, hx1, -⟩ := DataW.trod_string Tryd.underlying9 ht
        injection e1 with e1
        have := hat 0 c rfl
        rw [Nat.mul_one, Nat.add_zero, e1] at this
        refine ⟨s, this, Nat.le_trans (hw _ (hww _ ?_)) hrb⟩
        rw [hx1]
        simp [DataW.weights]
    obtain ⟨l, hl, hR⟩ := list_of len each
    have hml : maxLen ≤ 9223372036854775807 := by decide
    refine ⟨l, ⟨some a, cap, by rw [hl], by omega, by omega, by simp, ?_⟩, fun s hs => ?_, ?_⟩
    · by_cases hz : l = []
      · exact .inl hz
      · right
        have h0 : 0 < l.length := List.length_pos_iff.2 hz
        have hq := (hR 0 _ (List.getElem?_eq_getElem h0)).1
        have ha0 : a.add 0 = a := by simp [Addr.add]
        rw [ha0] at hq
        obtain ⟨h1, h2⟩ := cell_spot hq
        obtain ⟨b, o, spt⟩ := a
        simp only at h1
        subst h1
        refine ⟨b, o, rfl, h2, fun i s hs => ?_⟩
        have := (hR i s hs).1
        rw [addr_at] at this
        exact this
    · obtain ⟨i, hi⟩ := List.getElem?_of_mem hs
      exact (hR i s hi).2
    · have := hw _ hkw
      rw [strBytes] at this
      omega
set_option maxRecDepth 100000 in
theorem open_ty3 {W : World} {b0 : Nat} {sp : Nat → Bool} {cs : List Value} {fuel : Nat} {x : DataW H × List MemPlace} (hl : cs.length = 3) (ht : DataW.trod enc Tryd.prog W b0 sp true fuel 25 cs = some x) (hw : ∀ n ∈ x.1.weights Tryd.prog 25, n ≤ reachBytes) :
    ∃ (t : Ty) (vn va : Value), cs = [.int .i64 t.kind, vn, va] ∧ TyAt W vn va t ∧ TyOk t := by
  obtain ⟨f0, f1, f2, hs, ⟨p0, q0, t0⟩, ⟨p1, q1, t1⟩, ⟨p2, q2, t2⟩⟩ := ty_desc
  have hrb : reachBytes ≤ 140737488355328 := by decide
  match cs, hl, ht with
  | [x0, x1, x2], _, ht =>
    obtain ⟨z0, m0, h0, -, -⟩ := field_sz hs ht 0 f0 rfl 0 1 p0 q0
    obtain ⟨z1, m1, h1, w1, -⟩ := field_sz hs ht 1 f1 rfl 1 1 p1 q1
    obtain ⟨z2, m2, h2, w2, l2⟩ := field_sz hs ht 2 f2 rfl 2 1 p2 q2
    rw [t0] at h0
    rw [t1] at h1 w1
    rw [t2] at h2 w2
    simp only [List.drop_zero, List.drop_succ_cons, List.take_succ_cons, List.take_zero] at h0 h1 h2
    obtain ⟨v0, r0, -, b0⟩ := DataW.trod_int Tryd.underlying3 h0
    have b0 := bounds_i64 b0
    injection r0 with r0
    subst r0
    obtain ⟨ns, hns, hss, hnl⟩ := open_strs h1 fun n hn => hw n (w1 n hn)
    rcases open_slice_sz Tryd.underlying23 h2 with h | ⟨a, len, cap, h, hlc, hcm, ⟨kk, hkk, hkw⟩, hc⟩
    · simp at h
      subst h
      exact ⟨.mk v0 ns [], x1, _, rfl, TyAt.of hns (TysAt.nil W), .mk _ _ _ b0 hnl hss (by simp) (by simp)⟩
    · simp at h
      subst h
      have each : ∀ i, i < len → ∃ q : Ty × Value × Value, (W.cell? (a.add (i * 3)) = some (.int .i64 q.1.kind) ∧ W.cell? (a.add (i * 3 + 1)) = some q.2.1 ∧ W.cell? (a.add (i * 3 + 2)) = some q.2.2) ∧ TyAt W q.2.1 q.2.2 q.1 ∧ TyOk q.1 := by
        intro i hi
        obtain ⟨cs, y, m, hl, hat, ht, hwt, hsz⟩ := hc i hi
        rw [tyCellsOf] at hl hat
        obtain ⟨t, vn, va, rfl, h1, h2⟩ := open_ty3 hl ht fun n hn => hw n (w2 n (hwt n hn))
        exact ⟨(t, vn, va), ⟨hat 0 _ rfl, hat 1 _ rfl, hat 2 _ rfl⟩, h1, h2⟩
      obtain ⟨l, hl, hR⟩ := list_of len each
      have hml : maxLen ≤ 9223372036854775807 := by decide
      have hAt : TysAt W (.slice (some a) len cap) (l.map (·.1)) := by
        refine ⟨fun i => ((l[i]?).map (·.2.1)).getD (.tuple #[]), fun i => ((l[i]?).map (·.2.2)).getD (.tuple #[]), ⟨some a, cap, by simp [hl], by simp; omega, by omega, by simp, ?_⟩, fun i t hi => ?_⟩
        · by_cases hz : l = []
          · left; simp [hz]
          · right
            have h0 : 0 < l.length := List.length_pos_iff.2 hz
            have hq := (hR 0 _ (List.getElem?_eq_getElem h0)).1.1
            have ha0 : a.add (0 * 3) = a := by simp [Addr.add]
            rw [ha0] at hq
            obtain ⟨h1, h2⟩ := cell_spot hq
            obtain ⟨b, o, spt⟩ := a
            simp only at h1
            subst h1
            refine ⟨b, o, rfl, h2, fun i t hi => ?_⟩
            rw [List.getElem?_map] at hi
            obtain ⟨q, hq, rfl⟩ := Option.map_eq_some_iff.1 hi
            obtain ⟨c0, c1, c2⟩ := (hR i q hq).1
            rw [addr_at] at c0 c1 c2
            simp only [hq, Option.map_some, Option.getD_some]
            exact ⟨c0, c1, c2⟩
        · rw [List.getElem?_map] at hi
          obtain ⟨q, hq, rfl⟩ := Option.map_eq_some_iff.1 hi
          simp only [hq, Option.map_some, Option.getD_some]
          exact (hR i q hq).2.1
      refine ⟨.mk v0 ns (l.map (·.1)), x1, _, rfl, TyAt.of hns hAt, .mk _ _ _ b0 hnl hss ?_ fun t ht => ?_⟩
      · have := hw _ (w2 _ hkw)
        rw [tyBytesOf] at this
        simp
        omega
      · obtain ⟨q, hq, rfl⟩ := List.mem_map.1 ht
        obtain ⟨i, hi⟩ := List.getElem?_of_mem hq
        exact (hR i q hi).2.2
  termination_by SizeOf.sizeOf x.1
  decreasing_by omega
set_option maxRecDepth 100000 in
/-- A type among a law's arguments. -/
theorem open_type {W : World} {r : Reach} {b0 : Nat} {v : Value} {d : DataW H} {ps : List MemPlace} {sp : Nat → Bool} (hval : Value.okWide Tryd.prog W r b0 25 v) (hd : DataW.Trod enc Tryd.prog W 0 sp true 25 v d ps)
    (hw : ∀ n ∈ d.weights Tryd.prog 25, n ≤ reachBytes) :
    ∃ (t : Ty) (vn va : Value), v = TyVal vn va t ∧ TyAt W vn va t ∧ TyOk t := by
  obtain ⟨f0, f1, f2, hs, -⟩ := ty_desc
  obtain ⟨cs, rfl, hl, -⟩ := Shell.agg_cells hs (show Tryd.prog.cellTypes Tryd.prog.depth 25 = some [3, 22, 23] by kernel_rfl) hval
  obtain ⟨fuel, hf⟩ := hd
  rw [tyCellsOf] at hl
  have hf' : DataW.trod enc Tryd.prog W 0 sp true fuel 25 cs = some (d, ps) := by simpa [Value.cells] using hf
  obtain ⟨t, vn, va, rfl, h1, h2⟩ := open_ty3 hl hf' hw
  exact ⟨t, vn, va, rfl, h1, h2⟩
end
end TyD
end Go.Proofs.YthcdbmbimdkcfaaDoor
