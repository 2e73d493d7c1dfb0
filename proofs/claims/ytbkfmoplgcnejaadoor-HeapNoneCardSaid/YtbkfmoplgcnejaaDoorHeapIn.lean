/- A call among a law's arguments, layer 21: its cells. -/
import Derived.Test.YtbkfmoplgcnejaaDoorTy1
import Derived.Test.YtbkfmoplgcnejaaDoorVal
namespace Go.Proofs.YtbkfmoplgcnejaaDoor
open Go.RowKit Go.WideShapes Go.ChangeShapes Go.Deep ObjM Shell
namespace HeapD
open ValD TyD LabelM LabelD

def VOkH (v : V) : Prop := (-9223372036854775808 ≤ v.k ∧ v.k ≤ 9223372036854775807) ∧ (-9223372036854775808 ≤ v.n ∧ v.n ≤ 9223372036854775807) ∧ v.s.size ≤ 140737488355328 ∧ v.l < M64
def row19 (d : Int) (c : Nat) (a b v : V) (n : Int) (ca : Option Addr) (cl cc : Nat) (t : Ty) (vn va : Value) : List Value :=
  [.int .i64 d, .int .u64 (c : Int), .int .i64 a.k, .int .i64 a.n, .string a.s, .int .u64 (a.l : Int), .int .i64 b.k, .int .i64 b.n, .string b.s, .int .u64 (b.l : Int), .int .i64 v.k, .int .i64 v.n, .string v.s, .int .u64 (v.l : Int), .int .i64 n, .slice ca cl cc, .int .i64 t.kind, vn, va]
theorem val_desc : ∃ f0 f1 f2 f3 : Field, Tryd.prog.underlying 25 = some (.struct #[f0, f1, f2, f3]) ∧ (f0.offset = 0 ∧ Tryd.prog.cellsOf f0.type = 1 ∧ f0.type = 3) ∧ (f1.offset = 1 ∧ Tryd.prog.cellsOf f1.type = 1 ∧ f1.type = 2) ∧ (f2.offset = 2 ∧ Tryd.prog.cellsOf f2.type = 1 ∧ f2.type = 9) ∧ (f3.offset = 3 ∧ Tryd.prog.cellsOf f3.type = 1 ∧ f3.type = 23) :=
  ⟨_, _, _, _, Tryd.underlying25, ⟨by kernel_rfl, by kernel_rfl, by kernel_rfl⟩, ⟨by kernel_rfl, by kernel_rfl, by kernel_rfl⟩, ⟨by kernel_rfl, by kernel_rfl, by kernel_rfl⟩, ⟨by kernel_rfl, by kernel_rfl, by kernel_rfl⟩⟩
theorem act_desc : ∃ f0 f1 f2 f3 f4 f5 f6 f7 : Field, Tryd.prog.underlying 32 = some (.struct #[f0, f1, f2, f3, f4, f5, f6, f7]) ∧ (f0.offset = 0 ∧ Tryd.prog.cellsOf f0.type = 1 ∧ f0.type = 3) ∧ (f1.offset = 1 ∧ Tryd.prog.cellsOf f1.type = 1 ∧ f1.type = 23) ∧ (f2.offset = 2 ∧ Tryd.prog.cellsOf f2.type = 4 ∧ f2.type = 25) ∧ (f3.offset = 6 ∧ Tryd.prog.cellsOf f3.type = 4 ∧ f3.type = 25) ∧ (f4.offset = 10 ∧ Tryd.prog.cellsOf f4.type = 4 ∧ f4.type = 25) ∧ (f5.offset = 14 ∧ Tryd.prog.cellsOf f5.type = 1 ∧ f5.type = 3) ∧ (f6.offset = 15 ∧ Tryd.prog.cellsOf f6.type = 1 ∧ f6.type = 26) ∧ (f7.offset = 16 ∧ Tryd.prog.cellsOf f7.type = 3 ∧ f7.type = 30) :=
  ⟨_, _, _, _, _, _, _, _, Tryd.underlying32, ⟨by kernel_rfl, by kernel_rfl, by kernel_rfl⟩, ⟨by kernel_rfl, by kernel_rfl, by kernel_rfl⟩, ⟨by kernel_rfl, by kernel_rfl, by kernel_rfl⟩, ⟨by kernel_rfl, by kernel_rfl, by kernel_rfl⟩, ⟨by kernel_rfl, by kernel_rfl, by kernel_rfl⟩, ⟨by kernel_rfl, by kernel_rfl, by kernel_rfl⟩, ⟨by kernel_rfl, by kernel_rfl, by kernel_rfl⟩, ⟨by kernel_rfl, by kernel_rfl, by kernel_rfl⟩⟩
theorem intBytes : Tryd.prog.bytesOf 3 = 8 := by kernel_rfl
section
variable {H : Type} {enc : TypeId × Value → H}
theorem open_val4 {W : World} {b0 : Nat} {sp : Nat → Bool} {x0 x1 x2 x3 : Value} {fuel : Nat} {x : DataW H × List MemPlace} (h : DataW.trod enc Tryd.prog W b0 sp true fuel 25 [x0, x1, x2, x3] = some x) (hw : ∀ n ∈ x.1.weights Tryd.prog 25, n ≤ reachBytes) :
    ∃ v : V, VOkH v ∧ x0 = .int .i64 v.k ∧ x1 = .int .i64 v.n ∧ x2 = .string v.s ∧ x3 = .int .u64 (v.l : Int) := by
  obtain ⟨g0, g1, g2, g3, gs, ⟨a0, b0', c0'⟩, ⟨a1, b1', c1'⟩, ⟨a2, b2', c2'⟩, ⟨a3, b3', c3'⟩⟩ := val_desc
  have hrb : reachBytes ≤ 140737488355328 := by decide
  obtain ⟨y0, k0, e0, -⟩ := field_sz gs h 0 g0 rfl 0 1 a0 b0'
  obtain ⟨y1, k1, e1, -⟩ := field_sz gs h 1 g1 rfl 1 1 a1 b1'
  obtain ⟨y2, k2, e2, hwt, -⟩ := field_sz gs h 2 g2 rfl 2 1 a2 b2'
  obtain ⟨y3, k3, e3, -⟩ := field_sz gs h 3 g3 rfl 3 1 a3 b3'
  rw [c0'] at e0
  rw [c1'] at e1
  rw [c2'] at e2 hwt
  rw [c3'] at e3
  simp only [List.drop_zero, List.drop_succ_cons, List.take_succ_cons, List.take_zero] at e0 e1 e2 e3
  obtain ⟨v0, r0, -, w0⟩ := DataW.trod_int Tryd.underlying3 e0
  obtain ⟨v1, r1, -, w1⟩ := DataW.trod_int Tryd.underlying2 e1
  obtain ⟨v2, r2, hx2, -⟩ := DataW.trod_string Tryd.underlying9 e2
  obtain ⟨v3, r3, -, w3⟩ := DataW.trod_int Tryd.underlying23 e3
  injection r0 with r0
  injection r1 with r1
  injection r2 with r2
  injection r3 with r3
  subst r0 r1 r2 r3
  have u3 := bounds_u64 w3
  obtain ⟨n3, rfl⟩ : ∃ n : Nat, v3 = n := ⟨v3.toNat, by omega⟩
  have hsz : v2.size ≤ reachBytes := by
    refine hw _ (hwt _ ?_)
    rw [hx2]
    simp [DataW.weights]
  exact ⟨⟨v0, v1, v2, n3⟩, ⟨bounds_i64 w0, bounds_i64 w1, Nat.le_trans hsz hrb, by show n3 < M64; unfold M64; omega⟩, rfl, rfl, rfl, rfl⟩
set_option maxRecDepth 100000 in
theorem open_act19 {W : World} {b0 : Nat} {sp : Nat → Bool} {cs : List Value} {fuel : Nat} {x : DataW H × List MemPlace} (hl : cs.length = 19) (ht : DataW.trod enc Tryd.prog W b0 sp true fuel 32 cs = some x) (hw : ∀ n ∈ x.1.weights Tryd.prog 32, n ≤ reachBytes) :
    ∃ d c a b v n ca cl cc t vn va, cs = row19 d c a b v n ca cl cc t vn va ∧ c < M64 ∧ VOkH a ∧ VOkH b ∧ VOkH v ∧ (-9223372036854775808 ≤ n ∧ n ≤ 9223372036854775807) ∧ cl ≤ 140737488355328 ∧ TyAt W vn va t ∧ TyOk t := by
  obtain ⟨f0, f1, f2, f3, f4, f5, f6, f7, hs, ⟨p0, q0, t0⟩, ⟨p1, q1, t1⟩, ⟨p2, q2, t2⟩, ⟨p3, q3, t3⟩, ⟨p4, q4, t4⟩, ⟨p5, q5, t5⟩, ⟨p6, q6, t6⟩, ⟨p7, q7, t7⟩⟩ := act_desc
  have hrb : reachBytes ≤ 140737488355328 := by decide
  match cs, hl, ht with
  | [x0, x1, x2, x3, x4, x5, x6, x7, x8, x9, x10, x11, x12, x13, x14, x15, x16, x17, x18], _, ht =>
    obtain ⟨z0, m0, h0, -⟩ := field_sz hs ht 0 f0 rfl 0 1 p0 q0
    obtain ⟨z1, m1, h1, -⟩ := field_sz hs ht 1 f1 rfl 1 1 p1 q1
    obtain ⟨z2, m2, h2, w2, -⟩ := field_sz hs ht 2 f2 rfl 2 4 p2 q2
    obtain ⟨z3, m3, h3, w3, -⟩ := field_sz hs ht 3 f3 rfl 6 4 p3 q3
    obtain ⟨z4, m4, h4, w4, -⟩ := field_sz hs ht 4 f4 rfl 10 4 p4 q4
    obtain ⟨z5, m5, h5, -⟩ := field_sz hs ht 5 f5 rfl 14 1 p5 q5
    obtain ⟨z6, m6, h6, w6, -⟩ := field_sz hs ht 6 f6 rfl 15 1 p6 q6
    obtain ⟨z7, m7, h7, w7, -⟩ := field_sz hs ht 7 f7 rfl 16 3 p7 q7
    rw [t0] at h0
    rw [t1] at h1
    rw [t2] at h2 w2
    rw [t3] at h3 w3
    rw [t4] at h4 w4
    rw [t5] at h5
    rw [t6] at h6 w6
    rw [t7] at h7 w7
    simp only [List.drop_zero, List.drop_succ_cons, List.take_succ_cons, List.take_zero] at h0 h1 h2 h3 h4 h5 h6 h7
    obtain ⟨v0, r0, -, -⟩ := DataW.trod_int Tryd.underlying3 h0
    obtain ⟨v1, r1, -, u1⟩ := DataW.trod_int Tryd.underlying23 h1
    obtain ⟨a, ha, rfl, rfl, rfl, rfl⟩ := open_val4 h2 fun n hn => hw n (w2 n hn)
    obtain ⟨b, hb, rfl, rfl, rfl, rfl⟩ := open_val4 h3 fun n hn => hw n (w3 n hn)
    obtain ⟨v, hv, rfl, rfl, rfl, rfl⟩ := open_val4 h4 fun n hn => hw n (w4 n hn)
    obtain ⟨v5, r5, -, u5⟩ := DataW.trod_int Tryd.underlying3 h5
    obtain ⟨t, vn, va, hc7, ht7, ok7⟩ := open_ty3 rfl h7 fun n hn => hw n (w7 n hn)
    injection r0 with r0
    injection r1 with r1
    injection r5 with r5
    have b1 := bounds_u64 u1
    obtain ⟨n1, rfl⟩ : ∃ n : Nat, v1 = n := ⟨v1.toNat, by omega⟩
    simp only [List.cons.injEq, and_true] at hc7
    obtain ⟨rfl, rfl, rfl⟩ := hc7
    have hm : n1 < M64 := by unfold M64; omega
    rcases open_slice_sz Tryd.underlying26 h6 with h | ⟨ad, len, cap, h, hlc, hcm, ⟨kk, hkk, hkw⟩, -⟩
    · simp at h
      subst h r0 r1 r5
      exact ⟨v0, n1, a, b, v, v5, none, 0, 0, t, _, _, rfl, hm, ha, hb, hv, bounds_i64 u5, by omega, ht7, ok7⟩
    · simp at h
      subst h r0 r1 r5
      have := hw _ (w6 _ hkw)
      rw [intBytes] at this
      exact ⟨v0, n1, a, b, v, v5, some ad, len, cap, t, _, _, rfl, hm, ha, hb, hv, bounds_i64 u5, by omega, ht7, ok7⟩
end
end HeapD
end Go.Proofs.YtbkfmoplgcnejaaDoor
