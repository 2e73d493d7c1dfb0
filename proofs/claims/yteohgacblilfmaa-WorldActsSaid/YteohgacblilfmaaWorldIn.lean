/- Inputs and acts among a law's arguments. -/
import Derived.Test.YteohgacblilfmaaWorld5
import Derived.Test.YteohgacblilfmaaShellFlat
namespace Go.Proofs.Yteohgacblilfmaa
open Go.RowKit Go.WideShapes Go.ChangeShapes ObjM Shell
namespace WorldD
open LabelM LabelD TraceD

theorem inputs_desc : Try.prog.cellTypes Try.prog.depth 27 = some (List.replicate 8 25) := by kernel_rfl
theorem ints_shape {W : World} {v : Value} {z : List Int} (h : IntsAt W .i64 v z) : ∃ av cw, v = .slice av z.length cw := by
  rcases h with ⟨rfl, rfl⟩ | ⟨b, o, cap, rfl, _⟩
  · exact ⟨none, 0, rfl⟩
  · exact ⟨_, _, rfl⟩
theorem bytesI64 : Try.prog.bytesOf 2 = 8 := by kernel_rfl
section
variable {H : Type} {enc : TypeId × Value → H}
theorem open_inputs {W : World} {b0 : Nat} {v : Value} {d : DataW H} {ps : List MemPlace} {sp : Nat → Bool} (h : Value.okWide Try.prog W .any b0 27 v) (hd : DataW.Trod enc Try.prog W 0 sp true 27 v d ps)
    (hw : ∀ n ∈ d.weights Try.prog 27, n ≤ reachBytes) :
    ∃ (a : Nat → Option Addr) (z : Nat → List Int) (q : Nat → Nat), v = .agg (inV a z q).toArray ∧ (∀ j, (z j).length ≤ 17592186044416) ∧ ∀ j, j < 8 → IntsAt W .i64 (.slice (a j) (z j).length (q j)) (z j) := by
  obtain ⟨cs, rfl, hl, hc⟩ := Shell.arr_cells Try.underlying27 inputs_desc h
  rw [show Try.prog.cellsOf 27 = 8 by kernel_rfl] at hl
  obtain ⟨fuel, hf⟩ := hd
  obtain ⟨xs, m, -, hxd, -, hxl, hx⟩ := DataW.trod_array Try.underlying27 hf
  rw [show Try.prog.cellsOf 25 = 1 by kernel_rfl] at hx
  have hcl : (Value.agg cs.toArray).cells.toList = cs := by simp [Value.cells]
  rw [hcl] at hx
  have hrb : reachBytes ≤ 140737488355328 := by decide
  have each : ∀ i, i < 8 → ∃ t : Option Addr × List Int × Nat, cs[i]? = some (.slice t.1 t.2.1.length t.2.2) ∧ IntsAt W .i64 (.slice t.1 t.2.1.length t.2.2) t.2.1 ∧ t.2.1.length ≤ 17592186044416 := by
    intro i hi
    have hci : cs[i]? = some (cs[i]'(by omega)) := List.getElem?_eq_getElem (by omega)
    obtain ⟨u, hu, hok⟩ := hc i _ hci
    have hue : u = 25 := List.eq_of_mem_replicate (List.mem_of_getElem? hu)
    subst hue
    have h1 := hx i hi
    rw [Nat.mul_one] at h1
    have hone : (cs.drop i).take 1 = [cs[i]'(by omega)] := by
      rw [List.drop_eq_getElem_cons (by omega)]
      rfl
    rw [hone, List.getElem?_eq_getElem (by omega)] at h1
    have hval : Value.okWide Try.prog W .any b0 25 (cs[i]'(by omega)) := by
      unfold Value.okWide
      rw [Try.underlying25]
      exact hok
    have hcc : (cs[i]'(by omega)).cells.toList = [cs[i]'(by omega)] := by
      rcases Shell.ok_slice Try.underlying25 hok with e | ⟨b, o, len, cap, e, -, -, -⟩ <;> rw [e] <;> rfl
    obtain ⟨zs, hz, -⟩ := open_slice_ints Try.underlying25 Try.underlying2 (show Try.prog.cellsOf 2 = 1 by kernel_rfl) hval (d := (xs[i]'(by omega)).1) (ps := (xs[i]'(by omega)).2) (sp := sp) ⟨m, by rw [hcc]; exact h1⟩
    obtain ⟨av, cw, e⟩ := ints_shape hz
    refine ⟨(av, zs, cw), ?_, ?_, ?_⟩
    · rw [hci, e]
    · rw [← e]
      exact hz
    · show zs.length ≤ _
      rcases open_slice_any Try.underlying25 h1 with h0 | ⟨a, len, cap, h0, -, -, ⟨kk, hkk, hkw⟩, -⟩
      · rw [e] at h0
        simp at h0
        simp [h0.2.1]
      · rw [e] at h0
        simp at h0
        obtain ⟨rfl, rfl, rfl⟩ := h0
        have hin : kk * Try.prog.bytesOf 2 ∈ d.weights Try.prog 27 := by
          have e2 : d = .agg (xs.map (·.1)) := congrArg Prod.fst hxd
          rw [e2]
          simp only [DataW.weights, Try.underlying27]
          exact weightsAll_mem (List.mem_map.2 ⟨_, List.getElem_mem (by omega), rfl⟩) _ hkw
        have := hw _ hin
        rw [bytesI64] at this
        omega
  obtain ⟨L, hL, hR⟩ := list_of 8 each
  have hR' : ∀ i, i < 8 → cs[i]? = some (.slice (L.getD i (none, [], 0)).1 (L.getD i (none, [], 0)).2.1.length (L.getD i (none, [], 0)).2.2) ∧ IntsAt W .i64 (.slice (L.getD i (none, [], 0)).1 (L.getD i (none, [], 0)).2.1.length (L.getD i (none, [], 0)).2.2) (L.getD i (none, [], 0)).2.1 ∧ (L.getD i (none, [], 0)).2.1.length ≤ 17592186044416 := by
    intro i hi
    have e : L[i]? = some (L.getD i (none, [], 0)) := by rw [List.getD_eq_getElem?_getD, List.getElem?_eq_getElem (by omega)]; rfl
    exact hR i _ e
  refine ⟨fun i => (L.getD i (none, [], 0)).1, fun i => (L.getD i (none, [], 0)).2.1, fun i => (L.getD i (none, [], 0)).2.2, ?_, fun j => ?_, fun j hj => (hR' j hj).2.1⟩
  · have e : cs = inV (fun i => (L.getD i (none, [], 0)).1) (fun i => (L.getD i (none, [], 0)).2.1) (fun i => (L.getD i (none, [], 0)).2.2) := by
      apply List.ext_getElem?
      intro i
      by_cases hi : i < 8
      · rw [(hR' i hi).1, inV_at _ _ _ hi]
      · rw [List.getElem?_eq_none (by omega), List.getElem?_eq_none (by simp [inV]; omega)]
    rw [← e]
  · by_cases hj : j < 8
    · exact (hR' j hj).2.2
    · show (L.getD j (none, [], 0)).2.1.length ≤ _
      rw [List.getD_eq_getElem?_getD, List.getElem?_eq_none (by omega)]
      simp
end
theorem masks_desc : Try.prog.cellTypes Try.prog.depth 24 = some (List.replicate 8 23) := by kernel_rfl
theorem open_masks {W : World} {r : Reach} {b0 : Nat} {v : Value} (h : Value.okWide Try.prog W r b0 24 v) :
    ∃ m0 m1 m2 m3 m4 m5 m6 m7 : Nat, v = .agg #[.int .u64 (m0 : Int), .int .u64 (m1 : Int), .int .u64 (m2 : Int), .int .u64 (m3 : Int), .int .u64 (m4 : Int), .int .u64 (m5 : Int), .int .u64 (m6 : Int), .int .u64 (m7 : Int)] ∧ ∀ j, [m0, m1, m2, m3, m4, m5, m6, m7].getD j 0 < M64 := by
  obtain ⟨cs, rfl, hl, hc⟩ := Shell.arr_cells Try.underlying24 masks_desc h
  rw [show Try.prog.cellsOf 24 = 8 by kernel_rfl] at hl
  have hx : ∀ (i : Nat) x, cs[i]? = some x → ∃ n : Nat, x = .int .u64 (n : Int) ∧ n < M64 := by
    intro i x hi
    obtain ⟨u, hu, hok⟩ := hc i x hi
    have : u = 23 := by
      have := List.mem_of_getElem? hu
      exact List.eq_of_mem_replicate this
    subst this
    obtain ⟨n, rfl, hn⟩ := Shell.ok_int Try.underlying23 hok
    have hb := Shell.has_u64 hn
    exact ⟨n.toNat, by rw [Int.toNat_of_nonneg hb.1], by unfold M64; omega⟩
  match cs, hl, hx with
  | [c0, c1, c2, c3, c4, c5, c6, c7], _, hx =>
    obtain ⟨m0, rfl, h0⟩ := hx 0 c0 rfl
    obtain ⟨m1, rfl, h1⟩ := hx 1 c1 rfl
    obtain ⟨m2, rfl, h2⟩ := hx 2 c2 rfl
    obtain ⟨m3, rfl, h3⟩ := hx 3 c3 rfl
    obtain ⟨m4, rfl, h4⟩ := hx 4 c4 rfl
    obtain ⟨m5, rfl, h5⟩ := hx 5 c5 rfl
    obtain ⟨m6, rfl, h6⟩ := hx 6 c6 rfl
    obtain ⟨m7, rfl, h7⟩ := hx 7 c7 rfl
    refine ⟨m0, m1, m2, m3, m4, m5, m6, m7, rfl, fun j => ?_⟩
    match j with
    | 0 => exact h0
    | 1 => exact h1
    | 2 => exact h2
    | 3 => exact h3
    | 4 => exact h4
    | 5 => exact h5
    | 6 => exact h6
    | 7 => exact h7
    | j + 8 => exact (by decide : (0 : Nat) < M64)

/-- An act: a call, as its seven cells. -/
structure ActM where
  d : Int
  pc : Nat
  k : Int
  kd : Int
  n : Int
  s : ByteArray
  lab : Nat
def ActM.cells (a : ActM) : List Value := [.int .i64 a.d, .int .u64 (a.pc : Int), .int .i64 a.k, .int .i64 a.kd, .int .i64 a.n, .string a.s, .int .u64 (a.lab : Int)]
def ActCells (W : World) (b o : Nat) (i : Nat) (a : ActM) : Prop := ∀ (j : Nat) v, a.cells[j]? = some v → W.cell? ⟨b, o + i * 7 + j, none⟩ = some v
def ActsAt (W : World) (v : Value) (la : List ActM) : Prop :=
  (v = .slice none 0 0 ∧ la = []) ∨ ∃ b o cap, v = .slice (some ⟨b, o, none⟩) la.length cap ∧ la.length ≤ cap ∧ cap ≤ 9223372036854775807 ∧ b < W.heap.size ∧ ∀ (i : Nat) a, la[i]? = some a → ActCells W b o i a
theorem ActsAt.len {W : World} {v : Value} {la : List ActM} (h : ActsAt W v la) : la.length ≤ 9223372036854775807 := by
  rcases h with ⟨-, rfl⟩ | ⟨_, _, _, _, h1, h2, _⟩
  · simp
  · omega
theorem ActsAt.below {W W' : World} {v : Value} {la : List ActM} (h : ActsAt W v la) (hb : Below W.heap.size W W') : ActsAt W' v la := by
  rcases h with h | ⟨b, o, cap, h1, h2, h3, h4, h5⟩
  · exact .inl h
  · exact .inr ⟨b, o, cap, h1, h2, h3, Nat.lt_of_lt_of_le h4 hb.size, fun i a ha j v hv => (hb.cell (p := ⟨b, _, none⟩) h4).trans (h5 i a ha j v hv)⟩
theorem ActsAt.shape {W : World} {v : Value} {l : List ActM} (h : ActsAt W v l) : ∃ av cw, v = .slice av l.length cw := by
  rcases h with ⟨rfl, rfl⟩ | ⟨b, o, cap, rfl, _⟩
  · exact ⟨none, 0, rfl⟩
  · exact ⟨_, _, rfl⟩
theorem ActsAt.at {W : World} {av : Option Addr} {cw : Nat} {l : List ActM} (h : ActsAt W (.slice av l.length cw) l) (k : Nat) (hk : k < l.length) : ∃ b o, av = some ⟨b, o, none⟩ ∧ b < W.heap.size ∧
    W.cell? ⟨b, o + k * 7, none⟩ = some (.int .i64 l[k].d) ∧ W.cell? ⟨b, o + k * 7 + 1, none⟩ = some (.int .u64 (l[k].pc : Int)) ∧ W.cell? ⟨b, o + k * 7 + 2, none⟩ = some (.int .i64 l[k].k) ∧ W.cell? ⟨b, o + k * 7 + 3, none⟩ = some (.int .i64 l[k].kd) ∧
    W.cell? ⟨b, o + k * 7 + 4, none⟩ = some (.int .i64 l[k].n) ∧ W.cell? ⟨b, o + k * 7 + 5, none⟩ = some (.string l[k].s) ∧ W.cell? ⟨b, o + k * 7 + 6, none⟩ = some (.int .u64 (l[k].lab : Int)) := by
  rcases h with ⟨_, rfl⟩ | ⟨b, o, cap, h, _, _, hb, hc⟩
  · simp at hk
  · injection h with h4 h5 h6
    have := hc k _ (List.getElem?_eq_getElem hk)
    exact ⟨b, o, h4, hb, this 0 _ rfl, this 1 _ rfl, this 2 _ rfl, this 3 _ rfl, this 4 _ rfl, this 5 _ rfl, this 6 _ rfl⟩
section
variable {H : Type} {enc : TypeId × Value → H}
theorem act_desc : ∃ f0 f1 f2 f3 : Field, Try.prog.underlying 41 = some (.struct #[f0, f1, f2, f3]) ∧ (f0.offset = 0 ∧ Try.prog.cellsOf f0.type = 1 ∧ f0.type = 3) ∧ (f1.offset = 1 ∧ Try.prog.cellsOf f1.type = 1 ∧ f1.type = 23) ∧ (f2.offset = 2 ∧ Try.prog.cellsOf f2.type = 1 ∧ f2.type = 3) ∧ (f3.offset = 3 ∧ Try.prog.cellsOf f3.type = 4 ∧ f3.type = 39) :=
  ⟨_, _, _, _, Try.underlying41, ⟨by kernel_rfl, by kernel_rfl, by kernel_rfl⟩, ⟨by kernel_rfl, by kernel_rfl, by kernel_rfl⟩, ⟨by kernel_rfl, by kernel_rfl, by kernel_rfl⟩, ⟨by kernel_rfl, by kernel_rfl, by kernel_rfl⟩⟩
theorem val_desc : ∃ f0 f1 f2 f3 : Field, Try.prog.underlying 39 = some (.struct #[f0, f1, f2, f3]) ∧ (f0.offset = 0 ∧ Try.prog.cellsOf f0.type = 1 ∧ f0.type = 3) ∧ (f1.offset = 1 ∧ Try.prog.cellsOf f1.type = 1 ∧ f1.type = 2) ∧ (f2.offset = 2 ∧ Try.prog.cellsOf f2.type = 1 ∧ f2.type = 9) ∧ (f3.offset = 3 ∧ Try.prog.cellsOf f3.type = 1 ∧ f3.type = 23) :=
  ⟨_, _, _, _, Try.underlying39, ⟨by kernel_rfl, by kernel_rfl, by kernel_rfl⟩, ⟨by kernel_rfl, by kernel_rfl, by kernel_rfl⟩, ⟨by kernel_rfl, by kernel_rfl, by kernel_rfl⟩, ⟨by kernel_rfl, by kernel_rfl, by kernel_rfl⟩⟩
theorem actBytes : Try.prog.bytesOf 41 = 64 := by kernel_rfl
theorem actCellsOf : Try.prog.cellsOf 41 = 7 := by kernel_rfl
theorem open_acts {W : World} {r : Reach} {b0 : Nat} {v : Value} {d : DataW H} {ps : List MemPlace} {sp : Nat → Bool} (hval : Value.okWide Try.prog W r b0 28 v) (hd : DataW.Trod enc Try.prog W 0 sp true 28 v d ps)
    (hw : ∀ n ∈ d.weights Try.prog 28, n ≤ reachBytes) :
    ∃ la : List ActM, ActsAt W v la ∧ la.length ≤ 2199023255552 ∧ ∀ a ∈ la, a.pc < M64 ∧ a.lab < M64 := by
  have hcell : Cell.okWide Try.prog W r b0 28 v := by
    have h := hval
    unfold Value.okWide at h
    rw [Try.underlying28] at h
    exact h
  obtain ⟨f0, f1, f2, f3, hs, ⟨p0, q0, t0⟩, ⟨p1, q1, t1⟩, ⟨p2, q2, t2⟩, ⟨p3, q3, t3⟩⟩ := act_desc
  obtain ⟨g0, g1, g2, g3, gs, ⟨a0, b0', c0'⟩, ⟨a1, b1', c1'⟩, ⟨a2, b2', c2'⟩, ⟨a3, b3', c3'⟩⟩ := val_desc
  obtain ⟨fuel, hf⟩ := hd
  have hrb : reachBytes ≤ 140737488355328 := by decide
  rcases Shell.ok_slice Try.underlying28 hcell with rfl | ⟨b, o, len, cap, rfl, hlc, hcap, hb⟩
  · exact ⟨[], .inl ⟨rfl, rfl⟩, by simp, by simp⟩
  · rcases Shell.open_slice_any Try.underlying28 hf with h | ⟨a, len', cap', h, _, _, ⟨kk, hkk, hkw⟩, hc⟩
    · simp [Value.cells] at h
    · simp [Value.cells] at h
      obtain ⟨rfl, rfl, rfl⟩ := h
      have each : ∀ i, i < len → ∃ a : ActM, ActCells W b o i a ∧ a.pc < M64 ∧ a.lab < M64 := by
        intro i hi
        obtain ⟨cs, y, n, hl, hat, ht, -⟩ := hc i hi
        rw [actCellsOf] at hl hat
        match cs, hl, hat, ht with
        | [x0, x1, x2, x3, x4, x5, x6], _, hat, ht =>
          obtain ⟨z0, m0, h0, -⟩ := field_trod hs ht 0 f0 rfl 0 1 p0 q0
          obtain ⟨z1, m1, h1, -⟩ := field_trod hs ht 1 f1 rfl 1 1 p1 q1
          obtain ⟨z2, m2, h2, -⟩ := field_trod hs ht 2 f2 rfl 2 1 p2 q2
          obtain ⟨z3, m3, h3, -⟩ := field_trod hs ht 3 f3 rfl 3 4 p3 q3
          rw [t0] at h0
          rw [t1] at h1
          rw [t2] at h2
          rw [t3] at h3
          simp only [List.drop_zero, List.drop_succ_cons, List.take_succ_cons, List.take_zero] at h0 h1 h2 h3
          obtain ⟨y0, k0, e0, -⟩ := field_trod gs h3 0 g0 rfl 0 1 a0 b0'
          obtain ⟨y1, k1, e1, -⟩ := field_trod gs h3 1 g1 rfl 1 1 a1 b1'
          obtain ⟨y2, k2, e2, -⟩ := field_trod gs h3 2 g2 rfl 2 1 a2 b2'
          obtain ⟨y3, k3, e3, -⟩ := field_trod gs h3 3 g3 rfl 3 1 a3 b3'
          rw [c0'] at e0
          rw [c1'] at e1
          rw [c2'] at e2
          rw [c3'] at e3
          simp only [List.drop_zero, List.drop_succ_cons, List.take_succ_cons, List.take_zero] at e0 e1 e2 e3
          obtain ⟨v0, r0, -, -⟩ := DataW.trod_int Try.underlying3 h0
          obtain ⟨v1, r1, -, w1⟩ := DataW.trod_int Try.underlying23 h1
          obtain ⟨v2, r2, -, -⟩ := DataW.trod_int Try.underlying3 h2
          obtain ⟨v3, r3, -, -⟩ := DataW.trod_int Try.underlying3 e0
          obtain ⟨v4, r4, -, -⟩ := DataW.trod_int Try.underlying2 e1
          obtain ⟨v5, r5, -, -⟩ := DataW.trod_string Try.underlying9 e2
          obtain ⟨v6, r6, -, w6⟩ := DataW.trod_int Try.underlying23 e3
          injection r0 with r0
          injection r1 with r1
          injection r2 with r2
          injection r3 with r3
          injection r4 with r4
          injection r5 with r5
          injection r6 with r6
          subst r0 r1 r2 r3 r4 r5 r6
          have u1 := bounds_u64 w1
          have u6 := bounds_u64 w6
          obtain ⟨n1, rfl⟩ : ∃ n : Nat, v1 = n := ⟨v1.toNat, by omega⟩
          obtain ⟨n6, rfl⟩ : ∃ n : Nat, v6 = n := ⟨v6.toNat, by omega⟩
          refine ⟨⟨v0, n1, v2, v3, v4, v5, n6⟩, fun j u hj => ?_, by show n1 < M64; unfold M64; omega, by show n6 < M64; unfold M64; omega⟩
          have := hat j u hj
          rw [addr_add] at this
          rw [Nat.add_assoc]
          exact this
      obtain ⟨l, hl, hR⟩ := list_of len each
      refine ⟨l, .inr ⟨b, o, cap, by rw [hl], by omega, hcap, hb, fun i a ha => (hR i a ha).1⟩, ?_, fun a ha => ?_⟩
      · have := hw _ hkw
        rw [actBytes] at this
        omega
      · obtain ⟨i, hi⟩ := List.getElem?_of_mem ha
        exact (hR i a hi).2
end
end WorldD
end Go.Proofs.Yteohgacblilfmaa
