/- Putting what a stamp does not let in. -/
import Derived.Test.YtpmbbkhhnkhcbaaTab5
namespace Go.Proofs.Ytpmbbkhhnkhcbaa
open Go.RowKit ObjM Go.Maps
namespace TabD
open LabelM LabelD ValD

set_option maxRecDepth 100000 in
set_option maxHeartbeats 4000000 in
theorem put_nofit (B T lab : Nat) (fs : List Fd) (fv sv nm : Value) (pm : Option Nat) (c0 : Nat) (key x : V) (hv : VOk key) (hx : VOk x) (hk : keyB key = true) (hkind : key.k = 3) (w : World) (h : IsT w B T lab fs fv pm sv nm)
    (hfit : ∀ W, Below w.heap.size w W → Calls Try.prog 34 #[.pointer (some ⟨T, 0, none⟩), .string key.s, .int .i64 x.k] W fun e w' => e = .returned (.bool false) ∧ Below W.heap.size W w') : Calls Try.prog 15 #[.pointer (some ⟨T, 0, none⟩), .int .u64 (c0 : Int), key.agg, x.agg] w (PutOut w 42) := by
  have HFit := Lib.hid hfit
  clear hfit
  have HK := fun W => Lib.hid (keyOf_any key W)
  unfold KeyIs at HK
  rw [hk] at HK
  have HT := Lib.hid (fun (W : World) (hb : Below w.heap.size w W) => h.below hb)
  clear hk h
  obtain ⟨vk, vn, vs, vl⟩ := key
  obtain ⟨xk, xn, xs, xl⟩ := x
  simp only [V.agg, kval] at HK HFit ⊢
  simp only at hkind
  subst hkind
  have HA := Lib.hid (((Below.refl w.heap.size w).alloc (Nat.le_refl _) (.cells #[.int .i64 3, .int .i64 vn, .string vs, .int .u64 (vl : Int)] 35)).alloc (by simp) (.cells #[.int .i64 xk, .int .i64 xn, .string xs, .int .u64 (xl : Int)] 35))
  have HKb := Lib.hid ((Has.new w 35 [.int .i64 3, .int .i64 vn, .string vs, .int .u64 (vl : Int)]).below ((Below.refl (w.heap.size + 1) (w.alloc (.cells #[.int .i64 3, .int .i64 vn, .string vs, .int .u64 (vl : Int)] 35))).alloc (by simp) (.cells #[.int .i64 xk, .int .i64 xn, .string xs, .int .u64 (xl : Int)] 35)) (by omega))
  have hXb := Has.new (w.alloc (.cells #[.int .i64 3, .int .i64 vn, .string vs, .int .u64 (vl : Int)] 35)) 35 [.int .i64 xk, .int .i64 xn, .string xs, .int .u64 (xl : Int)]
  simp only [World.size_alloc] at hXb
  have HXb := Lib.hid hXb
  clear hXb
  go_enter Try.func15, Try.ntmps15
  go_wp2_with fail
  refine ((HK _).out).mono ?_
  rintro e w1 ⟨rfl, hb1⟩
  have B1 := HA.out.trans (hb1.mono (by simp; omega))
  have i1 := (Below.refl w1.heap.size w1).alloc (Nat.le_refl _) (.cells #[.int .i64 3, .int .i64 vn, .string vs] 76)
  have kb2 := (HKb.out.below hb1 HKb.out.lt).below i1 (HKb.out.below hb1 HKb.out.lt).lt
  have xb2 := (HXb.out.below hb1 HXb.out.lt).below i1 (HXb.out.below hb1 HXb.out.lt).lt
  have ib2 := Has.new w1 76 [.int .i64 3, .int .i64 vn, .string vs]
  have hlw : w.heap.size + 1 < w1.heap.size := (HXb.out.below hb1 HXb.out.lt).lt
  have B2 := Lib.hid (B1.trans (i1.mono B1.size))
  have KB2 := Lib.hid kb2
  have XB2 := Lib.hid xb2
  have IB2 := Lib.hid ib2
  have a0 := kb2.cell 0
  have a1 := kb2.cell 1
  have a2 := kb2.cell 2
  have a3 := kb2.cell 3
  have b0 := xb2.cell 0
  have b1 := xb2.cell 1
  have b2 := xb2.cell 2
  have b3 := xb2.cell 3
  have hl1 := kb2.lt
  have hl2 := xb2.lt
  simp at a0 a1 a2 a3 b0 b1 b2 b3 hl1 hl2
  clear hb1 B1 i1 kb2 xb2 ib2
  go_wp2_with fail
  refine (HFit.out _ B2.out).mono ?_
  rintro e w2 ⟨rfl, hb2⟩
  have B3 := Lib.hid (B2.out.trans (hb2.mono B2.out.size))
  clear hb2 B2 KB2 XB2 IB2 a0 a1 a2 a3 b0 b1 b2 b3 hl1 hl2
  go_wp2
  exact bodyPost_ret (v := .int .i64 42) (by simp [results, Try.results15, go_sem]) rfl ⟨rfl, B3.out⟩
end TabD
end Go.Proofs.Ytpmbbkhhnkhcbaa
