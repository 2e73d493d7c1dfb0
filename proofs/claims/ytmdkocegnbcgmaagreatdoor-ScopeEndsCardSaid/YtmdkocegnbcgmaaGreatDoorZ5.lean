/- Nodes that came in. -/
import Derived.Test.YtmdkocegnbcgmaaGreatDoorZ3
import Derived.Test.YtmdkocegnbcgmaaGreatDoorZ2
import Derived.Test.YtmdkocegnbcgmaaGreatDoorZ4
namespace Go.Proofs.YtmdkocegnbcgmaaGreatDoor
open Go.RowKit Go.WideShapes Go.ChangeShapes Go.Deep ObjM Shell
namespace TreeD

/-- A node. -/
structure Nd where
  kind : Int
  text : ByteArray
  kids : List Int
  pos : Int
theorem addr_at (b o n : Nat) : (⟨b, o, none⟩ : Addr).add n = ⟨b, o + n, none⟩ := by
  unfold Addr.add
  split
  · rename_i h; subst h; rfl
  · rfl
theorem cell_spot {w : World} {a : Addr} {v : Value} (h : w.cell? a = some v) : a.spot = none ∧ a.block < w.heap.size := by
  unfold World.cell? at h
  split at h
  · rename_i c e f hb
    split at h
    · cases h
    · rename_i hs
      exact ⟨by cases hsp : a.spot <;> simp_all, (Array.getElem?_eq_some_iff.1 hb).1⟩
  · cases h
theorem list_of {α : Type} {R : Nat → α → Prop} : ∀ (n : Nat), (∀ i, i < n → ∃ a, R i a) → ∃ l : List α, l.length = n ∧ ∀ (i : Nat) a, l[i]? = some a → R i a
  | 0, _ => ⟨[], rfl, fun i a h => by simp at h⟩
  | n + 1, h => by
    obtain ⟨l, hl, hR⟩ := list_of n fun i hi => h i (by omega)
    obtain ⟨a, ha⟩ := h n (by omega)
    refine ⟨l ++ [a], by simp [hl], fun i x hx => ?_⟩
    rcases Nat.lt_or_ge i l.length with hi | hi
    · rw [List.getElem?_append_left hi] at hx
      exact hR i x hx
    · rw [List.getElem?_append_right hi] at hx
      have hi2 : i - l.length = 0 := by
        have := (List.getElem?_eq_some_iff.1 hx).1
        simp at this
        omega
      rw [hi2] at hx
      simp at hx
      subst hx
      have : i = n := by omega
      subst this
      exact ha
/-- Numbers that lie in memory. -/
def KidsAt (W : World) (v : Value) (l : List Int) : Prop :=
  ∃ av cap, v = .slice av l.length cap ∧ (l = [] ∨ ∃ g o, av = some ⟨g, o, none⟩ ∧ g < W.heap.size ∧ ∀ (i : Nat) x, l[i]? = some x → W.cell? ⟨g, o + i, none⟩ = some (.int .i64 x))
theorem KidsAt.below {B : Nat} {W W' : World} {v : Value} {l : List Int} (h : KidsAt W v l) (hB : W.heap.size ≤ B) (hb : Below B W W') : KidsAt W' v l := by
  obtain ⟨av, cap, rfl, h1⟩ := h
  refine ⟨av, cap, rfl, ?_⟩
  rcases h1 with h1 | ⟨g, o, h1, h2, h3⟩
  · exact .inl h1
  · exact .inr ⟨g, o, h1, Nat.lt_of_lt_of_le h2 hb.size, fun i x hx => (hb.cell (p := ⟨g, _, none⟩) (show g < B by omega)).trans (h3 i x hx)⟩
theorem KidsAt.at {W : World} {av : Option Addr} {cap n : Nat} {l : List Int} (h : KidsAt W (.slice av n cap) l) (k : Nat) (hk : k < l.length) : ∃ g o, av = some ⟨g, o, none⟩ ∧ g < W.heap.size ∧ W.cell? ⟨g, o + k, none⟩ = some (.int .i64 l[k]) := by
  obtain ⟨av2, cap2, e, h1⟩ := h
  injection e with e1 e2 e3
  subst e1
  rcases h1 with rfl | ⟨g, o, h1, h2, h3⟩
  · simp at hk
  · exact ⟨g, o, h1, h2, h3 k _ (List.getElem?_eq_getElem hk)⟩
theorem KidsAt.shape {W : World} {v : Value} {l : List Int} (h : KidsAt W v l) : ∃ av cap, v = .slice av l.length cap := by
  obtain ⟨av, cap, e, _⟩ := h
  exact ⟨av, cap, e⟩
def NdCells (W : World) (b o i : Nat) (kv : Value) (n : Nd) : Prop :=
  W.cell? ⟨b, o + i * 4, none⟩ = some (.int .i64 n.kind) ∧ W.cell? ⟨b, o + i * 4 + 1, none⟩ = some (.string n.text) ∧ W.cell? ⟨b, o + i * 4 + 2, none⟩ = some kv ∧ W.cell? ⟨b, o + i * 4 + 3, none⟩ = some (.int .i64 n.pos) ∧ KidsAt W kv n.kids
/-- Nodes that lie in memory. -/
def NdsAt (W : World) (v : Value) (l : List Nd) : Prop :=
  ∃ av cap, v = .slice av l.length cap ∧ (l = [] ∨ ∃ b o, av = some ⟨b, o, none⟩ ∧ b < W.heap.size ∧ ∀ (i : Nat) n, l[i]? = some n → ∃ kv, NdCells W b o i kv n)
theorem NdsAt.below {B : Nat} {W W' : World} {v : Value} {l : List Nd} (h : NdsAt W v l) (hB : W.heap.size ≤ B) (hb : Below B W W') : NdsAt W' v l := by
  obtain ⟨av, cap, rfl, h1⟩ := h
  refine ⟨av, cap, rfl, ?_⟩
  rcases h1 with h1 | ⟨g, o, h1, h2, h3⟩
  · exact .inl h1
  · refine .inr ⟨g, o, h1, Nat.lt_of_lt_of_le h2 hb.size, fun i n hn => ?_⟩
    obtain ⟨kv, q0, q1, q2, q3, q4⟩ := h3 i n hn
    have hg : g < B := by omega
    exact ⟨kv, (hb.cell (p := ⟨g, _, none⟩) hg).trans q0, (hb.cell (p := ⟨g, _, none⟩) hg).trans q1, (hb.cell (p := ⟨g, _, none⟩) hg).trans q2, (hb.cell (p := ⟨g, _, none⟩) hg).trans q3, q4.below hB hb⟩
theorem NdsAt.shape {W : World} {v : Value} {l : List Nd} (h : NdsAt W v l) : ∃ av cap, v = .slice av l.length cap := by
  obtain ⟨av, cap, e, _⟩ := h
  exact ⟨av, cap, e⟩
theorem NdsAt.at {W : World} {av : Option Addr} {cap n : Nat} {l : List Nd} (h : NdsAt W (.slice av n cap) l) (k : Nat) (hk : k < l.length) : ∃ b o kv, av = some ⟨b, o, none⟩ ∧ b < W.heap.size ∧ NdCells W b o k kv l[k] := by
  obtain ⟨av2, cap2, e, h1⟩ := h
  injection e with e1 e2 e3
  subst e1
  rcases h1 with rfl | ⟨g, o, h1, h2, h3⟩
  · simp at hk
  · obtain ⟨kv, h4⟩ := h3 k _ (List.getElem?_eq_getElem hk)
    exact ⟨g, o, kv, h1, h2, h4⟩
/-- What weighs no more than the form's reach. -/
def NdOk (n : Nd) : Prop := n.text.size ≤ 140737488355328 ∧ n.kids.length ≤ 140737488355328 ∧ (∀ x ∈ n.kids, -9223372036854775808 ≤ x ∧ x ≤ 9223372036854775807)
section
variable {H : Type} {enc : TypeId × Value → H}
theorem intCells : Tryz.prog.cellsOf 3 = 1 := by kernel_rfl
theorem intBytes : Tryz.prog.bytesOf 3 = 8 := by kernel_rfl
theorem nodeCellsOf : Tryz.prog.cellsOf 40 = 4 := by kernel_rfl
theorem node_desc : ∃ f0 f1 f2 f3 : Field, Tryz.prog.underlying 40 = some (.struct #[f0, f1, f2, f3]) ∧ (f0.offset = 0 ∧ Tryz.prog.cellsOf f0.type = 1 ∧ f0.type = 3) ∧ (f1.offset = 1 ∧ Tryz.prog.cellsOf f1.type = 1 ∧ f1.type = 9) ∧ (f2.offset = 2 ∧ Tryz.prog.cellsOf f2.type = 1 ∧ f2.type = 31) ∧ (f3.offset = 3 ∧ Tryz.prog.cellsOf f3.type = 1 ∧ f3.type = 3) :=
  ⟨_, _, _, _, Tryz.underlying40, ⟨by kernel_rfl, by kernel_rfl, by kernel_rfl⟩, ⟨by kernel_rfl, by kernel_rfl, by kernel_rfl⟩, ⟨by kernel_rfl, by kernel_rfl, by kernel_rfl⟩, ⟨by kernel_rfl, by kernel_rfl, by kernel_rfl⟩⟩
theorem open_kids {W : World} {b0 : Nat} {sp : Nat → Bool} {v : Value} {fuel : Nat} {x : DataW H × List MemPlace} (hf : DataW.trod enc Tryz.prog W b0 sp true fuel 31 [v] = some x) (hw : ∀ n ∈ x.1.weights Tryz.prog 31, n ≤ reachBytes) :
    ∃ l : List Int, KidsAt W v l ∧ (∀ x ∈ l, -9223372036854775808 ≤ x ∧ x ≤ 9223372036854775807) ∧ l.length ≤ 140737488355328 := by
  have hrb : reachBytes ≤ 140737488355328 := by decide
  rcases Shell.open_slice_any Tryz.underlying31 hf with h | ⟨a, len, cap, h, _, _, ⟨kk, hkk, hkw⟩, hc⟩
  · simp at h
    subst h
    exact ⟨[], ⟨none, 0, rfl, .inl rfl⟩, by simp, by simp⟩
  · simp at h
    subst h
    have each : ∀ i, i < len → ∃ x : Int, W.cell? (a.add i) = some (.int .i64 x) ∧ (-9223372036854775808 ≤ x ∧ x ≤ 9223372036854775807) := by
      intro i hi
      obtain ⟨cs, y, n, hl, hat, ht, -⟩ := hc i hi
      rw [intCells] at hl hat
      match cs, hl, ht with
      | [c], _, ht =>
        obtain ⟨n1, e1, -, w1⟩ := DataW.trod_int Tryz.underlying3 ht
        injection e1 with e1
        have := hat 0 c rfl
        rw [Nat.mul_one, Nat.add_zero, e1] at this
        exact ⟨n1, this, bounds_i64 w1⟩
    obtain ⟨l, hl, hR⟩ := list_of len each
    refine ⟨l, ⟨some a, cap, by rw [hl], ?_⟩, fun s hs => ?_, ?_⟩
    · by_cases hz : l = []
      · exact .inl hz
      · right
        have h0 : 0 < l.length := List.length_pos_iff.2 hz
        have hq := (hR 0 _ (List.getElem?_eq_getElem h0)).1
        have ha0 : a.add 0 = a := by simp [Addr.add]
        rw [ha0] at hq
        obtain ⟨h1, h2⟩ := cell_spot hq
        obtain ⟨b, o, spt⟩ := a
        simp only at h1
        subst h1
        refine ⟨b, o, rfl, h2, fun i s hs => ?_⟩
        have := (hR i s hs).1
        rw [addr_at] at this
        exact this
    · obtain ⟨i, hi⟩ := List.getElem?_of_mem hs
      exact (hR i s hi).2
    · have := hw _ hkw
      rw [intBytes] at this
      omega
set_option maxRecDepth 100000 in
theorem open_node4 {W : World} {b0 : Nat} {sp : Nat → Bool} {cs : List Value} {fuel : Nat} {x : DataW H × List MemPlace} (hl : cs.length = 4) (ht : DataW.trod enc Tryz.prog W b0 sp true fuel 40 cs = some x) (hw : ∀ n ∈ x.1.weights Tryz.prog 40, n ≤ reachBytes) :
    ∃ (n : Nd) (kv : Value), cs = [.int .i64 n.kind, .string n.text, kv, .int .i64 n.pos] ∧ KidsAt W kv n.kids ∧ NdOk n := by
  obtain ⟨f0, f1, f2, f3, hs, ⟨p0, q0, t0⟩, ⟨p1, q1, t1⟩, ⟨p2, q2, t2⟩, ⟨p3, q3, t3⟩⟩ := node_desc
  have hrb : reachBytes ≤ 140737488355328 := by decide
  match cs, hl, ht with
  | [x0, x1, x2, x3], _, ht =>
    obtain ⟨z0, m0, h0, -⟩ := field_trod hs ht 0 f0 rfl 0 1 p0 q0
    obtain ⟨z1, m1, h1, w1⟩ := field_trod hs ht 1 f1 rfl 1 1 p1 q1
    obtain ⟨z2, m2, h2, w2⟩ := field_trod hs ht 2 f2 rfl 2 1 p2 q2
    obtain ⟨z3, m3, h3, -⟩ := field_trod hs ht 3 f3 rfl 3 1 p3 q3
    rw [t0] at h0
    rw [t1] at h1 w1
    rw [t2] at h2 w2
    rw [t3] at h3
    simp only [List.drop_zero, List.drop_succ_cons, List.take_succ_cons, List.take_zero] at h0 h1 h2 h3
    obtain ⟨v0, r0, -, -⟩ := DataW.trod_int Tryz.underlying3 h0
    obtain ⟨v1, r1, hx1, -⟩ := DataW.trod_string Tryz.underlying9 h1
    obtain ⟨l, hl, hlo, hll⟩ := open_kids h2 fun n hn => hw n (w2 n hn)
    obtain ⟨v3, r3, -, -⟩ := DataW.trod_int Tryz.underlying3 h3
    injection r0 with r0
    injection r1 with r1
    injection r3 with r3
    subst r0 r1 r3
    have hsz : v1.size ≤ reachBytes := by
      refine hw _ (w1 _ ?_)
      rw [hx1]
      simp [DataW.weights]
    exact ⟨⟨v0, v1, l, v3⟩, x2, rfl, hl, Nat.le_trans hsz hrb, hll, hlo⟩
set_option maxRecDepth 100000 in
theorem open_nodes {W : World} {r : Reach} {b0 : Nat} {v : Value} {d : DataW H} {ps : List MemPlace} {sp : Nat → Bool} (hval : Value.okWide Tryz.prog W r b0 22 v) (hd : DataW.Trod enc Tryz.prog W 0 sp true 22 v d ps)
    (hw : ∀ n ∈ d.weights Tryz.prog 22, n ≤ reachBytes) :
    ∃ l : List Nd, NdsAt W v l ∧ (∀ n ∈ l, NdOk n) ∧ l.length ≤ 9223372036854775807 := by
  have hcell : Cell.okWide Tryz.prog W r b0 22 v := by
    have h := hval
    unfold Value.okWide at h
    rw [Tryz.underlying22] at h
    exact h
  obtain ⟨fuel, hf⟩ := hd
  rcases Shell.ok_slice Tryz.underlying22 hcell with rfl | ⟨b, o, len, cap, rfl, hlc, hcap, hb⟩
  · exact ⟨[], ⟨none, 0, rfl, .inl rfl⟩, by simp, by simp⟩
  · rcases Shell.open_slice_any Tryz.underlying22 hf with h | ⟨a, len', cap', h, _, _, -, hc⟩
    · simp [Value.cells] at h
    · simp [Value.cells] at h
      obtain ⟨rfl, rfl, rfl⟩ := h
      have each : ∀ i, i < len → ∃ n : Nd, (∃ kv, NdCells W b o i kv n) ∧ NdOk n := by
        intro i hi
        obtain ⟨cs, y, m, hl, hat, ht, hwt⟩ := hc i hi
        rw [nodeCellsOf] at hl hat
        obtain ⟨n, kv, rfl, h1, h2⟩ := open_node4 hl ht fun n hn => hw n (hwt n hn)
        have g0 := hat 0 _ rfl
        have g1 := hat 1 _ rfl
        have g2 := hat 2 _ rfl
        have g3 := hat 3 _ rfl
        rw [addr_at] at g0 g1 g2 g3
        exact ⟨n, ⟨kv, g0, g1, g2, g3, h1⟩, h2⟩
      obtain ⟨l, hl, hR⟩ := list_of len each
      refine ⟨l, ⟨_, cap, by rw [hl], .inr ⟨b, o, rfl, hb, fun i n hn => (hR i n hn).1⟩⟩, fun n hn => ?_, by omega⟩
      obtain ⟨i, hi⟩ := List.getElem?_of_mem hn
      exact (hR i n hi).2
end
end TreeD
end Go.Proofs.YtmdkocegnbcgmaaGreatDoor
