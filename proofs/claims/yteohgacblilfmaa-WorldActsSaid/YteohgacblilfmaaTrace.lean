/- Events in a slice. -/
import Derived.Test.YteohgacblilfmaaObj
import Derived.Test.YteohgacblilfmaaShellCells
import Derived.Test.YteohgacblilfmaaShellSized
import Derived.Test.YteohgacblilfmaaShellSlice
import Derived.Test.YteohgacblilfmaaLabel
namespace Go.Proofs.Yteohgacblilfmaa
open Go.RowKit Go.WideShapes Go.ChangeShapes Go.Deep ObjM
namespace TraceD
open LabelM LabelD

/-- An event. -/
structure Ev where
  ch : Int
  k : Int
  n : Int
  s : ByteArray
def Ev.cells (e : Ev) : List Value := [.int .i64 e.ch, .int .i64 e.k, .int .i64 e.n, .string e.s]
def Ev.agg (e : Ev) : Value := .agg #[.int .i64 e.ch, .int .i64 e.k, .int .i64 e.n, .string e.s]
def Ev.eqB (a b : Ev) : Bool := (a.ch == b.ch) && (a.k == b.k) && (a.n == b.n) && (a.s.toList == b.s.toList)
def EvCells (W : World) (b o : Nat) (i : Nat) (a : Ev) : Prop :=
  W.cell? ⟨b, o + i * 4, none⟩ = some (.int .i64 a.ch) ∧ W.cell? ⟨b, o + i * 4 + 1, none⟩ = some (.int .i64 a.k) ∧ W.cell? ⟨b, o + i * 4 + 2, none⟩ = some (.int .i64 a.n) ∧ W.cell? ⟨b, o + i * 4 + 3, none⟩ = some (.string a.s)
/-- The slice v holds the events l. -/
def EvsAt (W : World) (v : Value) (l : List Ev) : Prop :=
  (v = .slice none 0 0 ∧ l = []) ∨ ∃ b o cap, v = .slice (some ⟨b, o, none⟩) l.length cap ∧ l.length ≤ cap ∧ cap ≤ 9223372036854775807 ∧ b < W.heap.size ∧ ∀ (i : Nat) e, l[i]? = some e → EvCells W b o i e
theorem EvsAt.len {W : World} {v : Value} {l : List Ev} (h : EvsAt W v l) : l.length ≤ 9223372036854775807 := by
  rcases h with ⟨-, rfl⟩ | ⟨_, _, _, _, h1, h2, _⟩
  · simp
  · omega
theorem EvsAt.below {W W' : World} {v : Value} {l : List Ev} (h : EvsAt W v l) (hb : Below W.heap.size W W') : EvsAt W' v l := by
  rcases h with h | ⟨b, o, cap, h1, h2, h3, h4, h5⟩
  · exact .inl h
  · refine .inr ⟨b, o, cap, h1, h2, h3, Nat.lt_of_lt_of_le h4 hb.size, fun i a ha => ?_⟩
    obtain ⟨c0, c1, c2, c3⟩ := h5 i a ha
    exact ⟨(hb.cell (p := ⟨b, _, none⟩) h4).trans c0, (hb.cell (p := ⟨b, _, none⟩) h4).trans c1, (hb.cell (p := ⟨b, _, none⟩) h4).trans c2, (hb.cell (p := ⟨b, _, none⟩) h4).trans c3⟩
theorem EvsAt.shape {W : World} {v : Value} {l : List Ev} (h : EvsAt W v l) : ∃ av cw, v = .slice av l.length cw := by
  rcases h with ⟨rfl, rfl⟩ | ⟨b, o, cap, rfl, _⟩
  · exact ⟨none, 0, rfl⟩
  · exact ⟨_, _, rfl⟩
theorem EvsAt.at {W : World} {av : Option Addr} {cw : Nat} {l : List Ev} (h : EvsAt W (.slice av l.length cw) l) (k : Nat) (hk : k < l.length) : ∃ b o, av = some ⟨b, o, none⟩ ∧ b < W.heap.size ∧ EvCells W b o k l[k] := by
  rcases h with ⟨_, rfl⟩ | ⟨b, o, cap, h, _, _, hb, hc⟩
  · simp at hk
  · injection h with h4 h5 h6
    exact ⟨b, o, h4, hb, hc k _ (List.getElem?_eq_getElem hk)⟩
theorem addr_add (b o : Nat) (n : Nat) : (⟨b, o, none⟩ : Addr).add n = ⟨b, o + n, none⟩ := by
  unfold Addr.add
  split
  · rename_i h; subst h; rfl
  · rfl
theorem list_of {α : Type} {R : Nat → α → Prop} : ∀ (n : Nat), (∀ i, i < n → ∃ a, R i a) → ∃ l : List α, l.length = n ∧ ∀ (i : Nat) a, l[i]? = some a → R i a
  | 0, _ => ⟨[], rfl, fun i a h => by simp at h⟩
  | n + 1, h => by
    obtain ⟨l, hl, hR⟩ := list_of n fun i hi => h i (by omega)
    obtain ⟨a, ha⟩ := h n (by omega)
    refine ⟨l ++ [a], by simp [hl], fun i x hx => ?_⟩
    rcases Nat.lt_or_ge i l.length with hi | hi
    · rw [List.getElem?_append_left hi] at hx
      exact hR i x hx
    · rw [List.getElem?_append_right hi] at hx
      have hi2 : i - l.length = 0 := by
        have := (List.getElem?_eq_some_iff.1 hx).1
        simp at this
        omega
      rw [hi2] at hx
      simp at hx
      have : i = n := by omega
      rw [this, ← hx]
      exact ha
section
variable {H : Type} {enc : TypeId × Value → H}
theorem ev_desc : ∃ f0 f1 f2 f3 : Field, Try.prog.underlying 65 = some (.struct #[f0, f1, f2, f3]) ∧ oneCellFields Try.prog #[f0, f1, f2, f3] = true ∧ Try.prog.underlying f0.type = some (.int .i64) ∧ Try.prog.underlying f1.type = some (.int .i64) ∧ Try.prog.underlying f2.type = some (.int .i64) ∧ Try.prog.underlying f3.type = some .string :=
  ⟨_, _, _, _, Try.underlying65, by kernel_rfl, by kernel_rfl, by kernel_rfl, by kernel_rfl, by kernel_rfl⟩
theorem evBytes : Try.prog.bytesOf 65 = 40 := by kernel_rfl
theorem open_evs {W : World} {r : Reach} {b0 : Nat} {v : Value} {d : DataW H} {ps : List MemPlace} {sp : Nat → Bool} (hval : Value.okWide Try.prog W r b0 35 v) (hd : DataW.Trod enc Try.prog W 0 sp true 35 v d ps)
    (hw : ∀ n ∈ d.weights Try.prog 35, n ≤ reachBytes) :
    ∃ l : List Ev, EvsAt W v l ∧ l.length * 40 ≤ 140737488355328 ∧ ∀ e ∈ l, e.s.size ≤ 140737488355328 ∧ (-9223372036854775808 ≤ e.ch ∧ e.ch ≤ 9223372036854775807) ∧ (-9223372036854775808 ≤ e.n ∧ e.n ≤ 9223372036854775807) := by
  have hcell : Cell.okWide Try.prog W r b0 35 v := by
    have h := hval
    unfold Value.okWide at h
    rw [Try.underlying35] at h
    exact h
  obtain ⟨f0, f1, f2, f3, hs, hone, k0, k1, k2, k3⟩ := ev_desc
  obtain ⟨fuel, hf⟩ := hd
  have hrb : reachBytes ≤ 140737488355328 := by decide
  rcases Shell.ok_slice Try.underlying35 hcell with rfl | ⟨b, o, len, cap, rfl, hlc, hcap, hb⟩
  · exact ⟨[], .inl ⟨rfl, rfl⟩, by simp, by simp⟩
  · rcases Shell.open_slice_sized Try.underlying35 hs hone (show Try.prog.cellsOf 65 = 4 by kernel_rfl) hf with h | ⟨a, len', cap', h, _, _, ⟨kk, hkk, hkw⟩, hc⟩
    · simp [Value.cells] at h
    · simp [Value.cells] at h
      obtain ⟨rfl, rfl, rfl⟩ := h
      have each : ∀ i, i < len → ∃ e : Ev, EvCells W b o i e ∧ e.s.size ≤ 140737488355328 ∧ (-9223372036854775808 ≤ e.ch ∧ e.ch ≤ 9223372036854775807) ∧ (-9223372036854775808 ≤ e.n ∧ e.n ≤ 9223372036854775807) := by
        intro i hi
        obtain ⟨v0, y0, n0, c0, t0, -⟩ := hc i hi 0 f0 rfl
        obtain ⟨v1, y1, n1, c1, t1, -⟩ := hc i hi 1 f1 rfl
        obtain ⟨v2, y2, n2, c2, t2, -⟩ := hc i hi 2 f2 rfl
        obtain ⟨v3, y3, n3, c3, t3, hwt⟩ := hc i hi 3 f3 rfl
        obtain ⟨x0, e0, -, w0⟩ := DataW.trod_int k0 t0
        obtain ⟨x1, e1, -, w1⟩ := DataW.trod_int k1 t1
        obtain ⟨x2, e2, -, w2⟩ := DataW.trod_int k2 t2
        obtain ⟨x3, e3, hx3, -⟩ := DataW.trod_string k3 t3
        injection e0 with e0
        injection e1 with e1
        injection e2 with e2
        injection e3 with e3
        subst e0 e1 e2 e3
        rw [addr_add] at c0 c1 c2 c3
        have hsz : x3.size ≤ reachBytes := by
          refine hw _ (hwt _ ?_)
          rw [hx3]
          simp [DataW.weights]
        exact ⟨⟨x0, x1, x2, x3⟩, ⟨by simpa using c0, by simpa [Nat.add_assoc] using c1, by simpa [Nat.add_assoc] using c2, by simpa [Nat.add_assoc] using c3⟩, Nat.le_trans hsz hrb, bounds_i64 w0, bounds_i64 w2⟩
      obtain ⟨l, hl, hR⟩ := list_of len each
      refine ⟨l, .inr ⟨b, o, cap, by rw [hl], by omega, hcap, hb, fun i a ha => (hR i a ha).1⟩, ?_, fun a ha => ?_⟩
      · have := hw _ hkw
        rw [evBytes] at this
        omega
      · obtain ⟨i, hi⟩ := List.getElem?_of_mem ha
        exact (hR i a hi).2
end
end TraceD
end Go.Proofs.Yteohgacblilfmaa
