/- Acts that came in. -/
import Derived.Test.YtpmbbkhhnkhcbaaTab30
import Derived.Test.YtpmbbkhhnkhcbaaShellFlat
import Derived.Test.YtpmbbkhhnkhcbaaTab9
import Derived.Test.YtpmbbkhhnkhcbaaShellCells
namespace Go.Proofs.Ytpmbbkhhnkhcbaa
open Go.RowKit Go.WideShapes Go.ChangeShapes Go.Deep ObjM Go.Maps Shell
namespace TabD
open LabelM LabelD ValD

/-- A call. -/
structure ActT where
  d : Int
  c : Nat
  key : V
  val : V
  n : Int
  st : List St
def ActT.cells (a : ActT) (sv : Value) : List Value := [.int .i64 a.d, .int .u64 (a.c : Int), .int .i64 a.key.k, .int .i64 a.key.n, .string a.key.s, .int .u64 (a.key.l : Int), .int .i64 a.val.k, .int .i64 a.val.n, .string a.val.s, .int .u64 (a.val.l : Int), .int .i64 a.n, sv]
def ActOk (a : ActT) : Prop := a.c < M64 ∧ VOk a.key ∧ VOk a.val ∧ (-9223372036854775808 ≤ a.n ∧ a.n ≤ 9223372036854775807) ∧ (∀ s ∈ a.st, StOk s) ∧ a.st.length ≤ 140737488355328
/-- Stamps that lie in memory. -/
def StsAt (W : World) (v : Value) (l : List St) : Prop :=
  ∃ av cap, v = .slice av l.length cap ∧ (l = [] ∨ ∃ g o, av = some ⟨g, o, none⟩ ∧ g < W.heap.size ∧ ∀ i s, l[i]? = some s → W.cell? ⟨g, o + i * 2, none⟩ = some (.string s.1) ∧ W.cell? ⟨g, o + i * 2 + 1, none⟩ = some (.int .i64 s.2))
theorem StsAt.below {B : Nat} {W W' : World} {v : Value} {l : List St} (h : StsAt W v l) (hB : W.heap.size ≤ B) (hb : Below B W W') : StsAt W' v l := by
  obtain ⟨av, cap, rfl, h1⟩ := h
  refine ⟨av, cap, rfl, ?_⟩
  rcases h1 with h1 | ⟨g, o, h1, h2, h3⟩
  · exact .inl h1
  · exact .inr ⟨g, o, h1, Nat.lt_of_lt_of_le h2 hb.size, fun i s hs => ⟨(hb.cell (p := ⟨g, _, none⟩) (show g < B by omega)).trans (h3 i s hs).1, (hb.cell (p := ⟨g, _, none⟩) (show g < B by omega)).trans (h3 i s hs).2⟩⟩
theorem list_of {α : Type} {R : Nat → α → Prop} : ∀ n, (∀ i, i < n → ∃ a, R i a) → ∃ l : List α, l.length = n ∧ ∀ i a, l[i]? = some a → R i a
  | 0, _ => ⟨[], rfl, fun i a h => by simp at h⟩
  | n + 1, h => by
    obtain ⟨l, hl, hR⟩ := list_of n fun i hi => h i (by omega)
    obtain ⟨a, ha⟩ := h n (by omega)
    refine ⟨l ++ [a], by simp [hl], fun i b hb => ?_⟩
    by_cases hi : i < n
    · rw [List.getElem?_append_left (by omega)] at hb
      exact hR i b hb
    · rw [List.getElem?_append_right (by omega)] at hb
      have hi2 : i = n := by
        have := (List.getElem?_eq_some_iff.1 hb).1
        simp at this
        omega
      subst hi2
      rw [hl] at hb
      simp at hb
      subst hb
      exact ha
section
variable {H : Type} {enc : TypeId × Value → H}
theorem st_desc : ∃ f0 f1 : Field, Try.prog.underlying 44 = some (.struct #[f0, f1]) ∧ oneCellFields Try.prog #[f0, f1] = true ∧ Try.prog.underlying f0.type = some .string ∧ Try.prog.underlying f1.type = some (.int .i64) :=
  ⟨_, _, Try.underlying44, by kernel_rfl, by kernel_rfl, by kernel_rfl⟩
theorem stBytes : Try.prog.bytesOf 44 = 24 := by kernel_rfl
theorem cell_spot {w : World} {a : Addr} {v : Value} (h : w.cell? a = some v) : a.spot = none ∧ a.block < w.heap.size := by
  unfold World.cell? at h
  split at h
  · rename_i c e f hb
    split at h
    · cases h
    · rename_i hs
      exact ⟨by cases hsp : a.spot <;> simp_all, (Array.getElem?_eq_some_iff.1 hb).1⟩
  · cases h
theorem open_sts {W : World} {b0 : Nat} {sp : Nat → Bool} {v : Value} {fuel : Nat} {x : DataW H × List MemPlace} (hf : DataW.trod enc Try.prog W b0 sp true fuel 31 [v] = some x) (hw : ∀ n ∈ x.1.weights Try.prog 31, n ≤ reachBytes) :
    ∃ l : List St, StsAt W v l ∧ (∀ s ∈ l, StOk s) ∧ l.length ≤ 140737488355328 := by
  obtain ⟨f0, f1, hs, hone, k0, k1⟩ := st_desc
  have hrb : reachBytes ≤ 140737488355328 := by decide
  rcases Shell.open_slice_sized Try.underlying31 hs hone (show Try.prog.cellsOf 44 = 2 by kernel_rfl) hf with h | ⟨a, len, cap, h, _, _, ⟨kk, hkk, hkw⟩, hc⟩
  · simp at h
    subst h
    exact ⟨[], ⟨none, 0, rfl, .inl rfl⟩, by simp, by simp⟩
  · simp at h
    subst h
    have each : ∀ i, i < len → ∃ s : St, (W.cell? (a.add (i * 2)) = some (.string s.1) ∧ W.cell? (a.add (i * 2 + 1)) = some (.int .i64 s.2)) ∧ StOk s := by
      intro i hi
      obtain ⟨v0, y0, n0, c0, t0, hwt⟩ := hc i hi 0 f0 rfl
      obtain ⟨v1, y1, n1, c1, t1, -⟩ := hc i hi 1 f1 rfl
      obtain ⟨x0, e0, hx0, -⟩ := DataW.trod_string k0 t0
      obtain ⟨x1, e1, -, w1⟩ := DataW.trod_int k1 t1
      injection e0 with e0
      injection e1 with e1
      subst e0 e1
      have hsz : x0.size ≤ reachBytes := by
        refine hw _ (hwt _ ?_)
        rw [hx0]
        simp [DataW.weights]
      exact ⟨(x0, x1), ⟨c0, c1⟩, Nat.le_trans hsz hrb, bounds_i64 w1⟩
    obtain ⟨l, hl, hR⟩ := list_of len each
    refine ⟨l, ⟨some a, cap, by rw [hl], ?_⟩, fun s hs => ?_, ?_⟩
    · by_cases hz : l = []
      · exact .inl hz
      · right
        have h0 : 0 < l.length := List.length_pos_iff.2 hz
        have hq := (hR 0 _ (List.getElem?_eq_getElem h0)).1.1
        have ha0 : a.add (0 * 2) = a := by simp [Addr.add]
        rw [ha0] at hq
        obtain ⟨h1, h2⟩ := cell_spot hq
        obtain ⟨b, o, spt⟩ := a
        simp only at h1
        subst h1
        refine ⟨b, o, rfl, h2, fun i s hs => ?_⟩
        have := (hR i s hs).1
        rw [addr_at, addr_at] at this
        exact this
    · obtain ⟨i, hi⟩ := List.getElem?_of_mem hs
      exact (hR i s hi).2
    · have := hw _ hkw
      rw [stBytes] at this
      omega
theorem act_desc : ∃ f0 f1 f2 f3 f4 f5 : Field, Try.prog.underlying 37 = some (.struct #[f0, f1, f2, f3, f4, f5]) ∧ (f0.offset = 0 ∧ Try.prog.cellsOf f0.type = 1 ∧ f0.type = 3) ∧ (f1.offset = 1 ∧ Try.prog.cellsOf f1.type = 1 ∧ f1.type = 23) ∧ (f2.offset = 2 ∧ Try.prog.cellsOf f2.type = 4 ∧ f2.type = 35) ∧ (f3.offset = 6 ∧ Try.prog.cellsOf f3.type = 4 ∧ f3.type = 35) ∧ (f4.offset = 10 ∧ Try.prog.cellsOf f4.type = 1 ∧ f4.type = 2) ∧ (f5.offset = 11 ∧ Try.prog.cellsOf f5.type = 1 ∧ f5.type = 31) :=
  ⟨_, _, _, _, _, _, Try.underlying37, ⟨by kernel_rfl, by kernel_rfl, by kernel_rfl⟩, ⟨by kernel_rfl, by kernel_rfl, by kernel_rfl⟩, ⟨by kernel_rfl, by kernel_rfl, by kernel_rfl⟩, ⟨by kernel_rfl, by kernel_rfl, by kernel_rfl⟩, ⟨by kernel_rfl, by kernel_rfl, by kernel_rfl⟩, ⟨by kernel_rfl, by kernel_rfl, by kernel_rfl⟩⟩
theorem val_desc : ∃ f0 f1 f2 f3 : Field, Try.prog.underlying 35 = some (.struct #[f0, f1, f2, f3]) ∧ (f0.offset = 0 ∧ Try.prog.cellsOf f0.type = 1 ∧ f0.type = 3) ∧ (f1.offset = 1 ∧ Try.prog.cellsOf f1.type = 1 ∧ f1.type = 2) ∧ (f2.offset = 2 ∧ Try.prog.cellsOf f2.type = 1 ∧ f2.type = 9) ∧ (f3.offset = 3 ∧ Try.prog.cellsOf f3.type = 1 ∧ f3.type = 23) :=
  ⟨_, _, _, _, Try.underlying35, ⟨by kernel_rfl, by kernel_rfl, by kernel_rfl⟩, ⟨by kernel_rfl, by kernel_rfl, by kernel_rfl⟩, ⟨by kernel_rfl, by kernel_rfl, by kernel_rfl⟩, ⟨by kernel_rfl, by kernel_rfl, by kernel_rfl⟩⟩
theorem actCellsOf : Try.prog.cellsOf 37 = 12 := by kernel_rfl
/-- A value, out of its cells. -/
theorem open_val4 {W : World} {b0 : Nat} {sp : Nat → Bool} {x0 x1 x2 x3 : Value} {fuel : Nat} {x : DataW H × List MemPlace} (h : DataW.trod enc Try.prog W b0 sp true fuel 35 [x0, x1, x2, x3] = some x) (hw : ∀ n ∈ x.1.weights Try.prog 35, n ≤ reachBytes) :
    ∃ v : V, VOk v ∧ [x0, x1, x2, x3] = v.cells.toList := by
  obtain ⟨g0, g1, g2, g3, gs, ⟨a0, b0', c0'⟩, ⟨a1, b1', c1'⟩, ⟨a2, b2', c2'⟩, ⟨a3, b3', c3'⟩⟩ := val_desc
  have hrb : reachBytes ≤ 140737488355328 := by decide
  obtain ⟨y0, k0, e0, -⟩ := field_trod gs h 0 g0 rfl 0 1 a0 b0'
  obtain ⟨y1, k1, e1, -⟩ := field_trod gs h 1 g1 rfl 1 1 a1 b1'
  obtain ⟨y2, k2, e2, hwt⟩ := field_trod gs h 2 g2 rfl 2 1 a2 b2'
  obtain ⟨y3, k3, e3, -⟩ := field_trod gs h 3 g3 rfl 3 1 a3 b3'
  rw [c0'] at e0
  rw [c1'] at e1
  rw [c2'] at e2 hwt
  rw [c3'] at e3
  simp only [List.drop_zero, List.drop_succ_cons, List.take_succ_cons, List.take_zero] at e0 e1 e2 e3
  obtain ⟨v0, r0, -, w0⟩ := DataW.trod_int Try.underlying3 e0
  obtain ⟨v1, r1, -, w1⟩ := DataW.trod_int Try.underlying2 e1
  obtain ⟨v2, r2, hx2, -⟩ := DataW.trod_string Try.underlying9 e2
  obtain ⟨v3, r3, -, w3⟩ := DataW.trod_int Try.underlying23 e3
  injection r0 with r0
  injection r1 with r1
  injection r2 with r2
  injection r3 with r3
  subst r0 r1 r2 r3
  have u3 := bounds_u64 w3
  obtain ⟨n3, rfl⟩ : ∃ n : Nat, v3 = n := ⟨v3.toNat, by omega⟩
  have hsz : v2.size ≤ reachBytes := by
    refine hw _ (hwt _ ?_)
    rw [hx2]
    simp [DataW.weights]
  exact ⟨⟨v0, v1, v2, n3⟩, ⟨bounds_i64 w0, bounds_i64 w1, Nat.le_trans hsz hrb, by show n3 < M64; unfold M64; omega⟩, rfl⟩
theorem open_act12 {W : World} {b0 : Nat} {sp : Nat → Bool} {cs : List Value} {fuel : Nat} {x : DataW H × List MemPlace} (hl : cs.length = 12) (ht : DataW.trod enc Try.prog W b0 sp true fuel 37 cs = some x) (hw : ∀ n ∈ x.1.weights Try.prog 37, n ≤ reachBytes) :
    ∃ (a : ActT) (sv : Value), cs = a.cells sv ∧ StsAt W sv a.st ∧ ActOk a := by
  obtain ⟨f0, f1, f2, f3, f4, f5, hs, ⟨p0, q0, t0⟩, ⟨p1, q1, t1⟩, ⟨p2, q2, t2⟩, ⟨p3, q3, t3⟩, ⟨p4, q4, t4⟩, ⟨p5, q5, t5⟩⟩ := act_desc
  match cs, hl, ht with
  | [x0, x1, x2, x3, x4, x5, x6, x7, x8, x9, x10, x11], _, ht =>
    obtain ⟨z0, m0, h0, -⟩ := field_trod hs ht 0 f0 rfl 0 1 p0 q0
    obtain ⟨z1, m1, h1, -⟩ := field_trod hs ht 1 f1 rfl 1 1 p1 q1
    obtain ⟨z2, m2, h2, w2⟩ := field_trod hs ht 2 f2 rfl 2 4 p2 q2
    obtain ⟨z3, m3, h3, w3⟩ := field_trod hs ht 3 f3 rfl 6 4 p3 q3
    obtain ⟨z4, m4, h4, -⟩ := field_trod hs ht 4 f4 rfl 10 1 p4 q4
    obtain ⟨z5, m5, h5, w5⟩ := field_trod hs ht 5 f5 rfl 11 1 p5 q5
    rw [t0] at h0
    rw [t1] at h1
    rw [t2] at h2 w2
    rw [t3] at h3 w3
    rw [t4] at h4
    rw [t5] at h5 w5
    simp only [List.drop_zero, List.drop_succ_cons, List.take_succ_cons, List.take_zero] at h0 h1 h2 h3 h4 h5
    obtain ⟨v0, r0, -, -⟩ := DataW.trod_int Try.underlying3 h0
    obtain ⟨v1, r1, -, u1⟩ := DataW.trod_int Try.underlying23 h1
    obtain ⟨key, hk, hkc⟩ := open_val4 h2 fun n hn => hw n (w2 n hn)
    obtain ⟨val, hv, hvc⟩ := open_val4 h3 fun n hn => hw n (w3 n hn)
    obtain ⟨v4, r4, -, u4⟩ := DataW.trod_int Try.underlying2 h4
    obtain ⟨l, hl, hlo, hll⟩ := open_sts h5 fun n hn => hw n (w5 n hn)
    injection r0 with r0
    injection r1 with r1
    injection r4 with r4
    have b1 := bounds_u64 u1
    obtain ⟨n1, rfl⟩ : ∃ n : Nat, v1 = n := ⟨v1.toNat, by omega⟩
    simp only [V.cells, List.cons.injEq, and_true] at hkc hvc
    obtain ⟨rfl, rfl, rfl, rfl⟩ := hkc
    obtain ⟨rfl, rfl, rfl, rfl⟩ := hvc
    subst r0 r1 r4
    exact ⟨⟨v0, n1, key, val, v4, l⟩, x11, rfl, hl, by show n1 < M64; unfold M64; omega, hk, hv, bounds_i64 u4, hlo, hll⟩
/-- Calls in memory. -/
def ActsT (W : World) (v : Value) (la : List ActT) : Prop :=
  ∃ av cap, v = .slice av la.length cap ∧ la.length ≤ 9223372036854775807 ∧ (la = [] ∨ ∃ b o, av = some ⟨b, o, none⟩ ∧ b < W.heap.size ∧ ∀ i a, la[i]? = some a → ∃ sv, StsAt W sv a.st ∧ ∀ (j : Nat) u, (a.cells sv)[j]? = some u → W.cell? ⟨b, o + i * 12 + j, none⟩ = some u)
theorem ActsT.below {B : Nat} {W W' : World} {v : Value} {la : List ActT} (h : ActsT W v la) (hB : W.heap.size ≤ B) (hb : Below B W W') : ActsT W' v la := by
  obtain ⟨av, cap, rfl, h0, h1⟩ := h
  refine ⟨av, cap, rfl, h0, ?_⟩
  rcases h1 with h1 | ⟨g, o, h1, h2, h3⟩
  · exact .inl h1
  · refine .inr ⟨g, o, h1, Nat.lt_of_lt_of_le h2 hb.size, fun i a ha => ?_⟩
    obtain ⟨sv, q1, q2⟩ := h3 i a ha
    exact ⟨sv, q1.below hB hb, fun j u hu => (hb.cell (p := ⟨g, _, none⟩) (show g < B by omega)).trans (q2 j u hu)⟩
theorem open_acts {W : World} {r : Reach} {b0 : Nat} {v : Value} {d : DataW H} {ps : List MemPlace} {sp : Nat → Bool} (hval : Value.okWide Try.prog W r b0 24 v) (hd : DataW.Trod enc Try.prog W 0 sp true 24 v d ps)
    (hw : ∀ n ∈ d.weights Try.prog 24, n ≤ reachBytes) :
    ∃ la : List ActT, ActsT W v la ∧ ∀ a ∈ la, ActOk a := by
  have hcell : Cell.okWide Try.prog W r b0 24 v := by
    have h := hval
    unfold Value.okWide at h
    rw [Try.underlying24] at h
    exact h
  obtain ⟨fuel, hf⟩ := hd
  rcases Shell.ok_slice Try.underlying24 hcell with rfl | ⟨b, o, len, cap, rfl, hlc, hcap, hb⟩
  · exact ⟨[], ⟨none, 0, rfl, by simp, .inl rfl⟩, by simp⟩
  · rcases Shell.open_slice_any Try.underlying24 hf with h | ⟨a, len', cap', h, _, _, ⟨kk, hkk, hkw⟩, hc⟩
    · simp [Value.cells] at h
    · simp [Value.cells] at h
      obtain ⟨rfl, rfl, rfl⟩ := h
      have each : ∀ i, i < len → ∃ a : ActT, (∃ sv, StsAt W sv a.st ∧ ∀ (j : Nat) u, (a.cells sv)[j]? = some u → W.cell? ⟨b, o + i * 12 + j, none⟩ = some u) ∧ ActOk a := by
        intro i hi
        obtain ⟨cs, y, n, hl, hat, ht, hwt⟩ := hc i hi
        rw [actCellsOf] at hl hat
        obtain ⟨a, sv, rfl, h1, h2⟩ := open_act12 hl ht fun n hn => hw n (hwt n hn)
        refine ⟨a, ⟨sv, h1, fun j u hj => ?_⟩, h2⟩
        have := hat j u hj
        rw [addr_at] at this
        rw [Nat.add_assoc]
        exact this
      obtain ⟨l, hl, hR⟩ := list_of len each
      refine ⟨l, ⟨_, cap, by rw [hl], by omega, .inr ⟨b, o, rfl, hb, fun i a ha => (hR i a ha).1⟩⟩, fun a ha => ?_⟩
      obtain ⟨i, hi⟩ := List.getElem?_of_mem ha
      exact (hR i a hi).2
/-- A call by value. -/
theorem open_actv {W : World} {r : Reach} {b0 : Nat} {v : Value} {d : DataW H} {ps : List MemPlace} {sp : Nat → Bool} (hval : Value.okWide Try.prog W r b0 37 v) (hd : DataW.Trod enc Try.prog W 0 sp true 37 v d ps)
    (hw : ∀ n ∈ d.weights Try.prog 37, n ≤ reachBytes) :
    ∃ (a : ActT) (sv : Value), v = .agg (a.cells sv).toArray ∧ StsAt W sv a.st ∧ ActOk a := by
  obtain ⟨fs, h1, h2, h3⟩ := act_fields
  obtain ⟨cs, rfl, hl, hc⟩ := Shell.agg_cells h1 h2 hval
  rw [h3] at hl
  obtain ⟨fuel, hf⟩ := hd
  have e : (Value.agg cs.toArray).cells.toList = cs := by simp [Value.cells]
  rw [e] at hf
  obtain ⟨a, sv, rfl, q1, q2⟩ := open_act12 hl hf hw
  exact ⟨a, sv, rfl, q1, q2⟩
end
end TabD
end Go.Proofs.Ytpmbbkhhnkhcbaa
