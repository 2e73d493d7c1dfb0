/- The example of the chapter; a guard that nobody made. -/
import Derived.Test.YtnlblmdmhfahpaaGuardRef2
import Derived.Test.YtnlblmdmhfahpaaShellCells
namespace Go.Proofs.Ytnlblmdmhfahpaa
open Go.RowKit ObjM
namespace GuardD
open LabelM LabelD GuardM

theorem isG_new {w : World} {B l : Nat} (hB : B ≤ w.heap.size) (hl : l < M64) : IsG (w.alloc (.cells #[.slice none 0 0, .int .u64 l] 50)) B w.heap.size l [] :=
  ⟨_, Has.new w _ [.slice none 0 0, .int .u64 l], World.ownsRow_nil _ _ _ _, hB, hl, fun _ h => by cases h⟩
theorem pc_of {w : World} {B G lab : Nat} {rs : List Reg} (h : IsG w B G lab rs) : Calls Try.prog 13 #[.pointer (some ⟨G, 0, none⟩)] w fun e w' => e = .returned (.int .u64 lab) ∧ w = w' := by
  obtain ⟨sv, hG, -⟩ := h
  exact pc_any G sv lab w hG
theorem deep_of {w : World} {B G lab : Nat} {rs : List Reg} (h : IsG w B G lab rs) : Calls Try.prog 14 #[.pointer (some ⟨G, 0, none⟩)] w fun e w' => e = .returned (.int .i64 rs.length) ∧ w = w' := by
  obtain ⟨sv, hG, hO, -⟩ := h
  rcases own_shape hO with ⟨rfl, h, _⟩ | ⟨g, cap, cs, rfl, _⟩
  · rw [h]
    exact deep_any G 0 0 none _ w hG
  · exact deep_any G _ cap _ _ w hG
theorem ints_one {w : World} {B : Nat} {v : Value} {x : Int} (h : w.ownsRow B 3 1 v 1 (intsV [x])) : ∃ g cap, v = .slice (some ⟨g, 0, none⟩) 1 cap ∧ w.cell? ⟨g, 0, none⟩ = some (.int .i64 x) := by
  obtain ⟨g, cap, rfl⟩ := ownsRow_succ h
  exact ⟨g, cap, rfl, own_cell h 0 (by simp [intsV])⟩

set_option maxRecDepth 100000 in
set_option maxHeartbeats 1000000 in
theorem awake_any (w : World) : Calls Try.prog 7 #[] w fun e w' => e = .returned (.bool true) ∧ Below w.heap.size w w' := by
  have H1 := fun W => Lib.hid (new_any 1 W)
  have HB1 := Lib.hid (fun (W : World) (G : Nat) (h : IsG W w.heap.size G 1 []) (hs : w.heap.size ≤ W.heap.size) => branch_any 9 4 2 (by decide) w.heap.size G 1 [] (by decide) W hs h)
  have HB2 := Lib.hid (fun (W : World) (G : Nat) (h : IsG W w.heap.size G 3 [⟨9, 4, 1⟩]) (hs : w.heap.size ≤ W.heap.size) => branch_any 9 6 4 (by decide) w.heap.size G 3 [⟨9, 4, 1⟩] (by decide) W hs h)
  have HA := Lib.hid (fun (W : World) (G : Nat) (h : IsG W w.heap.size G 7 [⟨9, 4, 1⟩]) (hs : w.heap.size ≤ W.heap.size) => at_any 9 (by decide) w.heap.size G 7 [⟨9, 4, 1⟩] (by decide) W hs h)
  go_enter Try.func7, Try.ntmps7
  go_wp2_with fail
  refine ((H1 _).out).mono ?_
  rintro e w1 ⟨rfl, hw1⟩
  have hI1 : IsG w1 w.heap.size w.heap.size 1 [] := by rw [← hw1]; exact isG_new (Nat.le_refl _) (by decide)
  have hs1 : Below w.heap.size w w1 := by rw [← hw1]; exact (Below.refl _ _).alloc (Nat.le_refl _) _
  clear hw1
  have K1 := Lib.hid (HB1.out w1 _ hI1 hs1.size)
  have S1 := Lib.hid hs1
  clear hI1 hs1
  go_wp2_with fail
  refine (K1.out).mono ?_
  rintro e w2 ⟨rfl, hI2, -, hb2⟩
  have hs2 := S1.out.trans hb2
  have K2 := Lib.hid (HB2.out w2 _ hI2 hs2.size)
  have S2 := Lib.hid hs2
  clear hI2 hs2 hb2
  go_wp2_with fail
  refine (K2.out).mono ?_
  rintro e w3 ⟨rfl, hI3, -, hb3⟩
  have hs3 := S2.out.trans hb3
  have K3 := Lib.hid (pc_of hI3)
  have K4 := Lib.hid (deep_of hI3)
  have K5 := Lib.hid (HA.out w3 _ hI3 hs3.size)
  have S3 := Lib.hid hs3
  clear hI3 hs3 hb3
  go_wp2_with fail
  refine (K3.out).mono ?_
  rintro e w4 ⟨rfl, hw⟩
  subst hw
  go_wp2_with fail
  refine (K4.out).mono ?_
  rintro e w4 ⟨rfl, hw⟩
  subst hw
  go_wp2_with fail
  refine (K5.out).mono ?_
  rintro e w4 ⟨v, rfl, hI4, hT4, -, hb4⟩
  have hs4 := S3.out.trans hb4
  obtain ⟨g, cap, rfl, hc⟩ := ints_one hT4
  have K6 := Lib.hid (pc_of hI4)
  have S4 := Lib.hid hs4
  clear hI4 hs4 hb4 hT4
  go_wp2_with fail
  refine (K6.out).mono ?_
  rintro e w5 ⟨rfl, hw⟩
  subst hw
  go_wp2
  go_ret
  exact ⟨by rfl, S4.out⟩

set_option maxHeartbeats 1000000 in
theorem branch_nil (l j t : Int) (w : World) : Calls Try.prog 9 #[.pointer none, .int .u64 l, .int .i64 j, .int .i64 t] w fun e w' => e = .returned (.tuple #[]) ∧ w = w' := by
  go_enter Try.func9, Try.ntmps9
  go_wp2
  first | go_end0 | refine bodyPost_ret (results_none rfl _ _ _) rfl ?_
  exact ⟨rfl, rfl⟩
set_option maxHeartbeats 1000000 in
theorem at_nil (j : Int) (w : World) : Calls Try.prog 11 #[.pointer none, .int .i64 j] w fun e w' => e = .returned (.slice none 0 0) ∧ w = w' := by
  go_enter Try.func11, Try.ntmps11
  go_wp2
  go_ret
  exact ⟨rfl, rfl⟩
set_option maxHeartbeats 1000000 in
theorem at_neg (p : Addr) (j : Int) (hj : j < 0) (w : World) : Calls Try.prog 11 #[.pointer (some p), .int .i64 j] w fun e w' => e = .returned (.slice none 0 0) ∧ w = w' := by
  go_enter Try.func11, Try.ntmps11
  go_wp2
  go_ret
  exact ⟨rfl, rfl⟩
theorem flows_all (l : Nat) (hl : l < M64) : flowsB 18446744073709551615 l = ((l : Int) == 18446744073709551615) := by
  rw [Bool.eq_iff_iff, flows_iff64 l (by decide), beq_iff_eq]
  constructor
  · intro h
    have : l = 18446744073709551615 := by
      apply Nat.eq_of_testBit_eq
      intro i
      rcases Nat.lt_or_ge i 64 with hi | hi
      · have h1 : (18446744073709551615 : Nat).testBit i = true := by
          rw [show (18446744073709551615 : Nat) = 2 ^ 64 - 1 by decide, Nat.testBit_two_pow_sub_one]
          simpa using hi
        rw [h1]
        exact h i hi h1
      · rw [testBit_big hl hi, testBit_big (by decide) hi]
    omega
  · intro h
    have : l = 18446744073709551615 := by omega
    subst this
    exact fun _ _ h => h

set_option maxRecDepth 100000 in
set_option maxHeartbeats 1000000 in
theorem guardNone_any (l : Nat) (hl : l < M64) (d p t : Int) (al : Int) (w : World) :
    Calls Try.prog 5 #[.int .u64 l, .agg #[.int .i64 d, .int .u64 al, .int .i64 p, .int .i64 t]] w fun e w' => e = .returned (.bool true) ∧ Below w.heap.size w w' := by
  have HA := fun W => Lib.hid (awake_any W)
  have H1 := fun W => Lib.hid (branch_nil al p t W)
  have H2 := fun W => Lib.hid (at_nil p W)
  have H3 := fun W => Lib.hid (pc_none W)
  have H4 := fun W => Lib.hid (deep_none W)
  have H5 := fun W => Lib.hid (may_any none 18446744073709551615 l (by decide) hl W (pc_none W))
  rw [flows_all l hl] at H5
  obtain ⟨b, hb⟩ : ∃ b, ((l : Int) == 18446744073709551615) = b := ⟨_, rfl⟩
  rw [hb] at H5
  go_enter Try.func5, Try.ntmps5
  go_wp2_with fail
  with_reducible refine ((HA _).out).mono ?_
  rintro e w1 ⟨rfl, hb1⟩
  have hbox : Has w1 w.heap.size 33 [.int .i64 d, .int .u64 al, .int .i64 p, .int .i64 t] := (Has.new w _ _).keepsT (KeepsT.below hb1 []) (by simp)
  have b1 := hbox.cell 1
  have b2 := hbox.cell 2
  have b3 := hbox.cell 3
  have hlt := hbox.lt
  simp at b1 b2 b3
  have HB := Lib.hid hb1
  clear hbox hb1
  go_wp2_with fail
  with_reducible refine ((H1 _).out).mono ?_
  rintro e w2 ⟨rfl, hw⟩
  subst hw
  go_wp2_with fail
  with_reducible refine ((H2 _).out).mono ?_
  rintro e w2 ⟨rfl, hw⟩
  subst hw
  go_wp2_with fail
  with_reducible refine ((H3 _).out).mono ?_
  rintro e w2 ⟨rfl, hw⟩
  subst hw
  go_wp2_with fail
  with_reducible refine ((H4 _).out).mono ?_
  rintro e w2 ⟨rfl, hw⟩
  subst hw
  go_wp2_with fail
  with_reducible refine ((H5 _).out).mono ?_
  rintro e w2 ⟨rfl, hw⟩
  subst hw
  go_wp2
  go_ret
  exact ⟨by simp, ((Below.refl _ w).alloc (Nat.le_refl _) _).trans (HB.out.mono (by simp))⟩

theorem act_fields : ∃ fs, Try.prog.underlying 33 = some (.struct fs) ∧ Try.prog.cellTypes Try.prog.depth 33 = some [3, 23, 3, 3] ∧ Try.prog.cellsOf 33 = 4 := ⟨_, Try.underlying33, by kernel_rfl, by kernel_rfl⟩
/-- An Act by value. -/
theorem open_act {W : World} {r : Reach} {b0 : Nat} {v : Value} (h : Value.okWide Try.prog W r b0 33 v) :
    ∃ (d : Int) (l : Nat) (p t : Int), v = .agg #[.int .i64 d, .int .u64 l, .int .i64 p, .int .i64 t] ∧ l < M64 := by
  obtain ⟨fs, h1, h2, h3⟩ := act_fields
  obtain ⟨cs, rfl, hl, hc⟩ := Shell.agg_cells h1 h2 h
  rw [h3] at hl
  match cs, hl, hc with
  | [c0, c1, c2, c3], _, hc =>
    obtain ⟨u0, e0, o0⟩ := hc 0 c0 rfl
    obtain ⟨u1, e1, o1⟩ := hc 1 c1 rfl
    obtain ⟨u2, e2, o2⟩ := hc 2 c2 rfl
    obtain ⟨u3, e3, o3⟩ := hc 3 c3 rfl
    simp at e0 e1 e2 e3
    subst e0 e1 e2 e3
    obtain ⟨d, rfl, -⟩ := Shell.ok_int Try.underlying3 o0
    obtain ⟨l, rfl, hl⟩ := Shell.ok_int Try.underlying23 o1
    obtain ⟨p, rfl, -⟩ := Shell.ok_int Try.underlying3 o2
    obtain ⟨t, rfl, -⟩ := Shell.ok_int Try.underlying3 o3
    have hl' := Shell.has_u64 hl
    obtain ⟨n, rfl⟩ : ∃ n : Nat, l = n := ⟨l.toNat, by omega⟩
    exact ⟨d, n, p, t, rfl, by unfold M64; omega⟩
theorem guardNone_u (l : Int) (hl : 0 ≤ l ∧ l ≤ 18446744073709551615) {b0 : Nat} (v : Value) (w : World) (h : Value.okWide Try.prog w .any b0 33 v) :
    Calls Try.prog 5 #[.int .u64 l, v] w fun e w' => e = .returned (.bool true) ∧ Below w.heap.size w w' := by
  obtain ⟨d, al, p, t, rfl, -⟩ := open_act h
  obtain ⟨n, rfl⟩ : ∃ n : Nat, l = n := ⟨l.toNat, by omega⟩
  exact guardNone_any n (by unfold M64; omega) d p t al w
end GuardD
end Go.Proofs.Ytnlblmdmhfahpaa
