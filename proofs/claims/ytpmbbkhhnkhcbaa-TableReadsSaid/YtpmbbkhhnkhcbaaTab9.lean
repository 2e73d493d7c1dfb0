/- A table that nobody made. -/
import Derived.Test.YtpmbbkhhnkhcbaaTab8
import Derived.Test.YtpmbbkhhnkhcbaaShellCells
import Derived.Deep.RegionHeld3
namespace Go.Proofs.Ytpmbbkhhnkhcbaa
open Go.RowKit ObjM Go.Maps
namespace TabD
open LabelM LabelD ValD

theorem eqInV (W : World) (l : Int) : Sem.run Try.prog (Op.equalIn 10000 35 (.agg #[.int .i64 0, .int .i64 0, .string ⟨#[]⟩, .int .u64 l]) (.agg #[.int .i64 0, .int .i64 0, .string ⟨#[]⟩, .int .u64 l])) W = .ok true W := by
  simp [go_sem]
theorem eqV (W : World) (l : Int) : Sem.run Try.prog (binOp BinOp.eql 35 (.agg #[.int .i64 0, .int .i64 0, .string ⟨#[]⟩, .int .u64 l]) (.agg #[.int .i64 0, .int .i64 0, .string ⟨#[]⟩, .int .u64 l])) W = .ok (.bool true) W := by
  simp only [go_sem, eqInV, Result.andThen]

set_option maxRecDepth 100000 in
set_option maxHeartbeats 4000000 in
theorem tableNone_any (d kk kn xk xn nn : Int) (c kl xl : Nat) (ks xs : ByteArray) (av : Option Addr) (n cap : Nat) (hkl : kl < M64) (w : World) :
    Calls Try.prog 5 #[.agg #[.int .i64 d, .int .u64 (c : Int), .int .i64 kk, .int .i64 kn, .string ks, .int .u64 (kl : Int), .int .i64 xk, .int .i64 xn, .string xs, .int .u64 (xl : Int), .int .i64 nn, .slice av n cap]] w fun e w' => e = .returned (.bool true) ∧ Below w.heap.size w w' := by
  have HA := fun W => Lib.hid (awake_any W)
  have H1 := fun W => Lib.hid (key_nil nn W)
  have H2 := Lib.hid (fun W => put_nil c ⟨kk, kn, ks, kl⟩ ⟨xk, xn, xs, xl⟩ W)
  have H3 := fun W => Lib.hid (stamp_nil (.slice av n cap) ⟨_, _, _, rfl⟩ W)
  have H4 := fun W => Lib.hid (tlen_nil W)
  have H5 := fun W => Lib.hid (fields_nil W)
  have H6 := fun W => Lib.hid (stamps_nil W)
  have H7 := fun W => Lib.hid (tlabel_nil W)
  have H8 := Lib.hid (fun W => get_none (.pointer none) 0 0 (by decide) ⟨kk, kn, ks, kl⟩ hkl W (fun W' _ => find_nil _ W') (fun W' _ => tlabel_nil W'))
  have HF := Lib.hid (fun (P : Nat) W h => few_one P d nn (c : Int) ⟨kk, kn, ks, kl⟩ ⟨xk, xn, xs, xl⟩ av n cap W h)
  simp only [V.agg, Nat.or_zero] at H2 H8
  have he := eqV
  have hq := eqInV
  have hA0 := (Below.refl w.heap.size w).alloc (Nat.le_refl _) (.cells #[.int .i64 d, .int .u64 (c : Int), .int .i64 kk, .int .i64 kn, .string ks, .int .u64 (kl : Int), .int .i64 xk, .int .i64 xn, .string xs, .int .u64 (xl : Int), .int .i64 nn, .slice av n cap] 37)
  have hX0 := Has.new w 37 [.int .i64 d, .int .u64 (c : Int), .int .i64 kk, .int .i64 kn, .string ks, .int .u64 (kl : Int), .int .i64 xk, .int .i64 xn, .string xs, .int .u64 (xl : Int), .int .i64 nn, .slice av n cap]
  have A0 := Lib.hid hA0
  have X0 := Lib.hid hX0
  clear hA0 hX0 hkl
  go_enter Try.func5, Try.ntmps5
  go_wp2_with fail
  with_reducible refine ((HA _).out).mono ?_
  rintro e w1 ⟨rfl, hb1⟩
  have A1 := Lib.hid (A0.out.trans (hb1.mono (by simp)))
  have hx := X0.out.below hb1 X0.out.lt
  have X1 := Lib.hid hx
  clear hb1 A0 X0
  have x0 := hx.cell 0
  have x1 := hx.cell 1
  have x2 := hx.cell 2
  have x3 := hx.cell 3
  have x4 := hx.cell 4
  have x5 := hx.cell 5
  have x6 := hx.cell 6
  have x7 := hx.cell 7
  have x8 := hx.cell 8
  have x9 := hx.cell 9
  have x10 := hx.cell 10
  have x11 := hx.cell 11
  have hlt := hx.lt
  simp at x0 x1 x2 x3 x4 x5 x6 x7 x8 x9 x10 x11
  clear hx
  go_wp2_with fail
  refine (HF.out w1.heap.size _ (Has.new w1 37 [.int .i64 d, .int .u64 (c : Int), .int .i64 kk, .int .i64 kn, .string ks, .int .u64 (kl : Int), .int .i64 xk, .int .i64 xn, .string xs, .int .u64 (xl : Int), .int .i64 nn, .slice av n cap])).mono ?_
  rintro e w2 ⟨⟨b, rfl⟩, hb2⟩
  have ha2 := (Below.refl w1.heap.size w1).alloc (Nat.le_refl _) (.cells #[.int .i64 d, .int .u64 (c : Int), .int .i64 kk, .int .i64 kn, .string ks, .int .u64 (kl : Int), .int .i64 xk, .int .i64 xn, .string xs, .int .u64 (xl : Int), .int .i64 nn, .slice av n cap] 37)
  have hb2' := ha2.trans (hb2.mono ha2.size)
  have A2 := Lib.hid (A1.out.trans (hb2'.mono A1.out.size))
  have hx := X1.out.below hb2' X1.out.lt
  have X2 := Lib.hid hx
  clear x0 x1 x2 x3 x4 x5 x6 x7 x8 x9 x10 x11 hlt hb2 ha2 hb2' A1 X1
  cases b
  · go_wp2
    exact bodyPost_ret (v := .bool true) (by simp [results, Try.results5, go_sem]) rfl ⟨rfl, A2.out⟩
  · have x10 := hx.cell 10
    have hlt := hx.lt
    simp at x10
    clear hx
    go_wp2_with fail
    with_reducible refine ((H1 _).out).mono ?_
    rintro e w3 ⟨rfl, hb3⟩
    have ha3 := (Below.refl w3.heap.size w3).alloc (Nat.le_refl _) (.cells #[.int .i64 0, .int .i64 0, .string ⟨#[]⟩, .int .u64 0] 35)
    have hb3' := hb3.trans (ha3.mono hb3.size)
    have A3 := Lib.hid (A2.out.trans (hb3'.mono A2.out.size))
    have hx := X2.out.below hb3' X2.out.lt
    have X3 := Lib.hid hx
    clear x10 hlt hb3 ha3 hb3' A2 X2
    go_wp2
    generalize World.alloc w3 _ = W4 at A3 X3 hx ⊢
    have x1 := hx.cell 1
    have x2 := hx.cell 2
    have x3 := hx.cell 3
    have x4 := hx.cell 4
    have x5 := hx.cell 5
    have x6 := hx.cell 6
    have x7 := hx.cell 7
    have x8 := hx.cell 8
    have x9 := hx.cell 9
    have x11 := hx.cell 11
    have hlt := hx.lt
    simp at x1 x2 x3 x4 x5 x6 x7 x8 x9 x11
    clear hx
    have HSS : Hid (∀ W', Below W4.heap.size W4 W' → W'.cell? ⟨w.heap.size, 1, none⟩ = some (.int .u64 (c : Int)) ∧ W'.cell? ⟨w.heap.size, 2, none⟩ = some (.int .i64 kk) ∧ W'.cell? ⟨w.heap.size, 3, none⟩ = some (.int .i64 kn) ∧ W'.cell? ⟨w.heap.size, 4, none⟩ = some (.string ks) ∧ W'.cell? ⟨w.heap.size, 5, none⟩ = some (.int .u64 (kl : Int)) ∧ W'.cell? ⟨w.heap.size, 6, none⟩ = some (.int .i64 xk) ∧ W'.cell? ⟨w.heap.size, 7, none⟩ = some (.int .i64 xn) ∧ W'.cell? ⟨w.heap.size, 8, none⟩ = some (.string xs) ∧ W'.cell? ⟨w.heap.size, 9, none⟩ = some (.int .u64 (xl : Int)) ∧ W'.cell? ⟨w.heap.size, 11, none⟩ = some (.slice av n cap)) := Lib.hid (fun W' hb => by
      have hh := X3.out.below hb X3.out.lt
      have y1 := hh.cell 1
      have y2 := hh.cell 2
      have y3 := hh.cell 3
      have y4 := hh.cell 4
      have y5 := hh.cell 5
      have y6 := hh.cell 6
      have y7 := hh.cell 7
      have y8 := hh.cell 8
      have y9 := hh.cell 9
      have y11 := hh.cell 11
      simp at y1 y2 y3 y4 y5 y6 y7 y8 y9 y11
      exact ⟨y1, y2, y3, y4, y5, y6, y7, y8, y9, y11⟩)
    go_region_held3 (fun W' => W'.cell? ⟨w.heap.size, 1, none⟩ = some (.int .u64 (c : Int)) ∧ W'.cell? ⟨w.heap.size, 2, none⟩ = some (.int .i64 kk) ∧ W'.cell? ⟨w.heap.size, 3, none⟩ = some (.int .i64 kn) ∧ W'.cell? ⟨w.heap.size, 4, none⟩ = some (.string ks) ∧ W'.cell? ⟨w.heap.size, 5, none⟩ = some (.int .u64 (kl : Int)) ∧ W'.cell? ⟨w.heap.size, 6, none⟩ = some (.int .i64 xk) ∧ W'.cell? ⟨w.heap.size, 7, none⟩ = some (.int .i64 xn) ∧ W'.cell? ⟨w.heap.size, 8, none⟩ = some (.string xs) ∧ W'.cell? ⟨w.heap.size, 9, none⟩ = some (.int .u64 (xl : Int)) ∧ W'.cell? ⟨w.heap.size, 11, none⟩ = some (.slice av n cap))
      (first | exact HSS.out _ (Below.refl _ _).drew | exact HSS.out _ p3 | exact HSS.out _ p2 | exact HSS.out _ p1 | skip)
      (first
        | (go_at_call 15
           refine (H2.out _).mono ?_
           rintro e w5 ⟨rfl, hb5⟩
           have p1 := ((Below.refl W4.heap.size W4).drew).trans hb5)
        | (go_at_call 20
           with_reducible refine ((H3 _).out).mono ?_
           rintro e w6 ⟨rfl, hw⟩
           subst hw)
        | (go_at_call 21
           with_reducible refine ((H4 _).out).mono ?_
           rintro e w6 ⟨rfl, hw⟩
           subst hw)
        | (go_at_call 11
           with_reducible refine ((H5 _).out).mono ?_
           rintro e w7 ⟨av7, cap7, rfl, hb7⟩
           have p2 := p1.trans (hb7.mono p1.size))
        | (go_at_call 12
           with_reducible refine ((H6 _).out).mono ?_
           rintro e w6 ⟨rfl, hw⟩
           subst hw)
        | (go_at_call 22
           with_reducible refine ((H7 _).out).mono ?_
           rintro e w6 ⟨rfl, hw⟩
           subst hw)
        | (go_at_call 14
           refine (H8.out _).mono ?_
           rintro e w8 ⟨rfl, hb8⟩
           simp only [V.agg]
           have p3 := p2.trans (hb8.mono p2.size)))
    all_goals
      have A9 := Lib.hid (A3.out.trans (p3.mono A3.out.size))
      clear p1 p2 p3
      go_wp2
      exact bodyPost_ret (v := .bool true) (by simp [results, Try.results5, go_sem]) rfl ⟨rfl, A9.out⟩
theorem act_fields : ∃ fs, Try.prog.underlying 37 = some (.struct fs) ∧ Try.prog.cellTypes Try.prog.depth 37 = some [3, 23, 3, 2, 9, 23, 3, 2, 9, 23, 2, 31] ∧ Try.prog.cellsOf 37 = 12 := ⟨_, Try.underlying37, by kernel_rfl, by kernel_rfl⟩
/-- An Act by value. -/
theorem open_act {W : World} {r : Reach} {b0 : Nat} {v : Value} (h : Value.okWide Try.prog W r b0 37 v) :
    ∃ (d kk kn xk xn nn : Int) (c kl xl : Nat) (ks xs : ByteArray) (av : Option Addr) (n cap : Nat), v = .agg #[.int .i64 d, .int .u64 (c : Int), .int .i64 kk, .int .i64 kn, .string ks, .int .u64 (kl : Int), .int .i64 xk, .int .i64 xn, .string xs, .int .u64 (xl : Int), .int .i64 nn, .slice av n cap] ∧ kl < M64 := by
  obtain ⟨fs, h1, h2, h3⟩ := act_fields
  obtain ⟨cs, rfl, hl, hc⟩ := Shell.agg_cells h1 h2 h
  rw [h3] at hl
  match cs, hl, hc with
  | [c0, c1, c2, c3, c4, c5, c6, c7, c8, c9, c10, c11], _, hc =>
    obtain ⟨u0, e0, o0⟩ := hc 0 c0 rfl
    obtain ⟨u1, e1, o1⟩ := hc 1 c1 rfl
    obtain ⟨u2, e2, o2⟩ := hc 2 c2 rfl
    obtain ⟨u3, e3, o3⟩ := hc 3 c3 rfl
    obtain ⟨u4, e4, o4⟩ := hc 4 c4 rfl
    obtain ⟨u5, e5, o5⟩ := hc 5 c5 rfl
    obtain ⟨u6, e6, o6⟩ := hc 6 c6 rfl
    obtain ⟨u7, e7, o7⟩ := hc 7 c7 rfl
    obtain ⟨u8, e8, o8⟩ := hc 8 c8 rfl
    obtain ⟨u9, e9, o9⟩ := hc 9 c9 rfl
    obtain ⟨u10, e10, o10⟩ := hc 10 c10 rfl
    obtain ⟨u11, e11, o11⟩ := hc 11 c11 rfl
    simp at e0 e1 e2 e3 e4 e5 e6 e7 e8 e9 e10 e11
    subst e0 e1 e2 e3 e4 e5 e6 e7 e8 e9 e10 e11
    obtain ⟨d, rfl, -⟩ := Shell.ok_int Try.underlying3 o0
    obtain ⟨l0, rfl, hl0⟩ := Shell.ok_int Try.underlying23 o1
    obtain ⟨kk, rfl, -⟩ := Shell.ok_int Try.underlying3 o2
    obtain ⟨kn, rfl, -⟩ := Shell.ok_int Try.underlying2 o3
    obtain ⟨ks, rfl, -⟩ := Shell.ok_string Try.underlying9 o4
    obtain ⟨l1, rfl, hl1⟩ := Shell.ok_int Try.underlying23 o5
    obtain ⟨xk, rfl, -⟩ := Shell.ok_int Try.underlying3 o6
    obtain ⟨xn, rfl, -⟩ := Shell.ok_int Try.underlying2 o7
    obtain ⟨xs, rfl, -⟩ := Shell.ok_string Try.underlying9 o8
    obtain ⟨l2, rfl, hl2⟩ := Shell.ok_int Try.underlying23 o9
    obtain ⟨nn, rfl, -⟩ := Shell.ok_int Try.underlying2 o10
    have hl0' := Shell.has_u64 hl0
    have hl1' := Shell.has_u64 hl1
    have hl2' := Shell.has_u64 hl2
    obtain ⟨c, rfl⟩ : ∃ n : Nat, l0 = n := ⟨l0.toNat, by omega⟩
    obtain ⟨kl, rfl⟩ : ∃ n : Nat, l1 = n := ⟨l1.toNat, by omega⟩
    obtain ⟨xl, rfl⟩ : ∃ n : Nat, l2 = n := ⟨l2.toNat, by omega⟩
    obtain rfl | ⟨b, o, n, cap, rfl, -⟩ := Shell.ok_slice Try.underlying31 o11
    · exact ⟨d, kk, kn, xk, xn, nn, c, kl, xl, ks, xs, none, 0, 0, rfl, by unfold M64; omega⟩
    · exact ⟨d, kk, kn, xk, xn, nn, c, kl, xl, ks, xs, some ⟨b, o, none⟩, n, cap, rfl, by unfold M64; omega⟩
theorem tableNone_u {b0 : Nat} (v : Value) (w : World) (h : Value.okWide Try.prog w .any b0 37 v) :
    Calls Try.prog 5 #[v] w fun e w' => e = .returned (.bool true) ∧ Below w.heap.size w w' := by
  obtain ⟨d, kk, kn, xk, xn, nn, c, kl, xl, ks, xs, av, n, cap, rfl, hkl⟩ := open_act h
  exact tableNone_any d kk kn xk xn nn c kl xl ks xs av n cap hkl w
end TabD
end Go.Proofs.Ytpmbbkhhnkhcbaa
