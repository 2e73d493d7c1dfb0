/- The walks of the laws of layer 2, from the contracts. -/
import Derived.Test.YtdjojekaacbcjaaDoorNumAwake
import Derived.Test.YtdjojekaacbcjaaDoorNumMore
import Derived.Test.YtdjojekaacbcjaaDoorRows
import Derived.Lib.ItoaLen
import Derived.Stop.LaidErr
namespace Go.Proofs.YtdjojekaacbcjaaDoor
open Go.RowKit
namespace NumD
open NumM

set_option maxHeartbeats 400000 in
theorem numDoes_any (op a b : Int) (w : World) (hT : Tab w) :
    Calls Tryd.prog 3 #[.int .i64 op, .int .i64 a, .int .i64 b] w fun e w' => e = .returned (.bool true) ∧ Below w.heap.size w w' := by
  have HT := Lib.hid hT
  clear hT
  go_enter Tryd.func3, Tryd.ntmps3
  go_wp2_with fail
  refine (awake_any _ HT.out).mono ?_
  rintro e w1 ⟨rfl, hb⟩
  go_wp2_with fail
  refine (do_any _ _ _ _).mono ?_
  rintro e w' ⟨rfl, rfl⟩
  go_wp2_with fail
  refine (refDo_any _ _ _ _).mono ?_
  rintro e w' ⟨rfl, rfl⟩
  go_wp2
  go_ret
  exact ⟨by simp, hb⟩

set_option maxHeartbeats 400000 in
theorem numShows_any (n : Int) (h0 : -9223372036854775808 ≤ n) (h1 : n ≤ 9223372036854775807) (w : World) (hT : Tab w) :
    Calls Tryd.prog 4 #[.int .i64 n] w fun e w' => e = .returned (.bool true) ∧ Below w.heap.size w w' := by
  have HT := Lib.hid hT
  clear hT
  go_enter Tryd.func4, Tryd.ntmps4
  go_wp2_with fail
  refine (awake_any _ HT.out).mono ?_
  rintro e w1 ⟨rfl, hb⟩
  have HT1 := Lib.hid (HT.out.below hb)
  go_wp2_with fail
  refine (show_any _ h0 h1 _ HT1.out).mono ?_
  rintro e w2 ⟨rfl, hb2⟩
  have hb3 := hb.trans (hb2.mono hb.size)
  have HT2 := Lib.hid (HT1.out.below hb2)
  go_wp2_with fail
  refine (refShow_any _ h0 h1 _ HT2.out).mono ?_
  rintro e w3 ⟨rfl, hb4⟩
  have hb5 := hb3.trans (hb4.mono hb3.size)
  go_wp2
  go_ret
  exact ⟨by simp, hb5⟩

set_option maxHeartbeats 400000 in
theorem numReads_any (s : ByteArray) (hs : s.size ≤ 9223372036854775807) (w : World) (hT : Tab w) :
    Calls Tryd.prog 5 #[.string s] w fun e w' => e = .returned (.bool true) ∧ Below w.heap.size w w' := by
  have HT := Lib.hid hT
  clear hT
  by_cases hl : s.size ≤ 1000
  · go_enter Tryd.func5, Tryd.ntmps5
    go_wp2_with fail
    refine (awake_any _ HT.out).mono ?_
    rintro e w1 ⟨rfl, hb⟩
    go_wp2_with fail
    refine (number_any _ _ hs).mono ?_
    rintro e w2 ⟨rfl, hb2⟩
    have hb3 := hb.trans (hb2.mono hb.size)
    go_wp2_with fail
    refine (refNumber_any _ _ hl).mono ?_
    rintro e w' ⟨rfl, rfl⟩
    go_wp2
    go_ret
    exact ⟨by simp, hb3⟩
  · go_enter Tryd.func5, Tryd.ntmps5
    go_wp2_with fail
    refine (awake_any _ HT.out).mono ?_
    rintro e w1 ⟨rfl, hb⟩
    go_wp2
    go_ret
    exact ⟨rfl, hb⟩

theorem do_at (op a b v : Int) (x : Bool) (w : World) (h1 : doV op a b = v) (h2 : doB op b = x) :
    Calls Tryd.prog 10 #[.int .i64 op, .int .i64 a, .int .i64 b] w fun e w' => e = .returned (.tuple #[.int .i64 v, .bool x]) ∧ w = w' :=
  (do_any op a b w).mono fun _ _ ⟨he, hw⟩ => ⟨he.trans (ret_ib h1 h2), hw⟩

set_option maxHeartbeats 400000 in
theorem numDivides_any (a b : Int) (a0 : -9223372036854775808 ≤ a) (a1 : a ≤ 9223372036854775807) (b0 : -9223372036854775808 ≤ b) (b1 : b ≤ 9223372036854775807) (w : World) (hT : Tab w) :
    Calls Tryd.prog 7 #[.int .i64 a, .int .i64 b] w fun e w' => e = .returned (.bool true) ∧ Below w.heap.size w w' := by
  have HT := Lib.hid hT
  clear hT
  by_cases hz : b = 0
  · subst hz
    have C4 := fun W => Lib.hid (do_at 4 a 0 0 false W rfl (doB_false (by omega)))
    have C5 := fun W => Lib.hid (do_at 5 a 0 0 false W rfl (doB_false (by omega)))
    go_enter Tryd.func7, Tryd.ntmps7
    go_wp2_with fail
    refine (awake_any _ HT.out).mono ?_
    rintro e w1 ⟨rfl, hb⟩
    go_wp2_with fail
    refine ((C4 _).out).mono ?_
    rintro e w' ⟨rfl, rfl⟩
    go_wp2_with fail
    refine ((C5 _).out).mono ?_
    rintro e w' ⟨rfl, rfl⟩
    go_wp2
    go_ret
    exact ⟨rfl, hb⟩
  · obtain ⟨q, r, C4, C5, hqr, hp, hn⟩ : ∃ q r : Int, (∀ W, Hid (Calls Tryd.prog 10 #[.int .i64 4, .int .i64 a, .int .i64 b] W fun e w' => e = .returned (.tuple #[.int .i64 q, .bool true]) ∧ W = w')) ∧
        (∀ W, Hid (Calls Tryd.prog 10 #[.int .i64 5, .int .i64 a, .int .i64 b] W fun e w' => e = .returned (.tuple #[.int .i64 r, .bool true]) ∧ W = w')) ∧
        (wrap64 (wrap64 (q * b) + r) != a) = false ∧ (0 < b → 0 ≤ r ∧ r < b) ∧ (b < 0 → r ≤ 0 ∧ b < r) := by
      refine ⟨fl a b, wrap64 (a - wrap64 (b * fl a b)), fun W => Lib.hid (do_at 4 a b _ true W ?_ (doB_true (by omega) (by omega) fun _ => hz)), fun W => Lib.hid (do_at 5 a b _ true W ?_ (doB_true (by omega) (by omega) fun _ => hz)), ?_, fun h => rest_pos h b1, fun h => rest_neg h b0⟩
      · show (if b = 0 then 0 else fl a b) = _
        rw [if_neg hz]
      · show (if b = 0 then 0 else wrap64 (a - wrap64 (b * fl a b))) = _
        rw [if_neg hz]
      · rw [bne_eq_false_iff_eq]
        exact back_eq a0 a1
    have hb0 : (b == 0) = false := by simpa using hz
    by_cases hpos : 0 < b
    · obtain ⟨r0, r1⟩ := hp hpos
      clear hp hn hz
      go_enter Tryd.func7, Tryd.ntmps7
      go_wp2_with fail
      refine (awake_any _ HT.out).mono ?_
      rintro e w1 ⟨rfl, hb⟩
      go_wp2_with fail
      refine ((C4 _).out).mono ?_
      rintro e w' ⟨rfl, rfl⟩
      go_wp2_with fail
      refine ((C5 _).out).mono ?_
      rintro e w' ⟨rfl, rfl⟩
      go_wp2
      go_ret
      exact ⟨by simp, hb⟩
    · obtain ⟨r0, r1⟩ := hn (by omega)
      clear hp hn hz
      go_enter Tryd.func7, Tryd.ntmps7
      go_wp2_with fail
      refine (awake_any _ HT.out).mono ?_
      rintro e w1 ⟨rfl, hb⟩
      go_wp2_with fail
      refine ((C4 _).out).mono ?_
      rintro e w' ⟨rfl, rfl⟩
      go_wp2_with fail
      refine ((C5 _).out).mono ?_
      rintro e w' ⟨rfl, rfl⟩
      go_wp2
      go_ret
      exact ⟨by simp, hb⟩

set_option maxHeartbeats 400000 in
theorem numRing_any (a b c : Int) (a0 : -9223372036854775808 ≤ a) (a1 : a ≤ 9223372036854775807) (w : World) (hT : Tab w) :
    Calls Tryd.prog 8 #[.int .i64 a, .int .i64 b, .int .i64 c] w fun e w' => e = .returned (.bool true) ∧ Below w.heap.size w w' := by
  have HT := Lib.hid hT
  clear hT
  have C := fun op x y v W h1 h2 => Lib.hid (do_at op x y v true W h1 h2)
  have hd := fun op b (h : op = 1 ∨ op = 2 ∨ op = 3) => doB_true (op := op) (b := b) (by omega) (by omega) (by omega)
  obtain ⟨s, hs⟩ : ∃ s, wrap64 (a + b) = s := ⟨_, rfl⟩
  obtain ⟨p, hp⟩ : ∃ p, wrap64 (s * c) = p := ⟨_, rfl⟩
  have hp2 : wrap64 (wrap64 (a * c) + wrap64 (c * b)) = p := by rw [← ring_eq, hs, hp]
  have hs2 : wrap64 (b + a) = s := by rw [Int.add_comm, hs]
  have ha : wrap64 (s - b) = a := by rw [← hs]; exact ring_back a0 a1
  have H1 := fun W => C 1 a b s W hs (hd 1 b (by omega))
  have H2 := fun W => C 1 b a s W hs2 (hd 1 a (by omega))
  have H3 := fun W => C 3 s c p W hp (hd 3 c (by omega))
  have H4 := fun W => C 3 a c _ W rfl (hd 3 c (by omega))
  have H5 := fun W => C 3 c b _ W rfl (hd 3 b (by omega))
  have H6 := fun W => C 1 (wrap64 (a * c)) (wrap64 (c * b)) p W hp2 (hd 1 _ (by omega))
  have H7 := fun W => C 2 s b a W ha (hd 2 b (by omega))
  clear C hd hs hp hp2 hs2 ha
  go_enter Tryd.func8, Tryd.ntmps8
  go_wp2_with fail
  refine (awake_any _ HT.out).mono ?_
  rintro e w1 ⟨rfl, hb⟩
  go_wp2_with fail
  refine ((H1 _).out).mono ?_
  rintro e w' ⟨rfl, rfl⟩
  go_wp2_with fail
  refine ((H2 _).out).mono ?_
  rintro e w' ⟨rfl, rfl⟩
  go_wp2_with fail
  refine ((H3 _).out).mono ?_
  rintro e w' ⟨rfl, rfl⟩
  go_wp2_with fail
  refine ((H4 _).out).mono ?_
  rintro e w' ⟨rfl, rfl⟩
  go_wp2_with fail
  refine ((H5 _).out).mono ?_
  rintro e w' ⟨rfl, rfl⟩
  go_wp2_with fail
  refine ((H6 _).out).mono ?_
  rintro e w' ⟨rfl, rfl⟩
  go_wp2_with fail
  refine ((H7 _).out).mono ?_
  rintro e w' ⟨rfl, rfl⟩
  go_wp2
  go_ret
  exact ⟨by simp, hb⟩

theorem itoa_size (n : Int) : (⟨(Lib.itoa n).toArray⟩ : ByteArray).data.toList = Lib.itoa n := by simp
theorem itoa_le (n : Int) (h0 : -9223372036854775808 ≤ n) (h1 : n ≤ 9223372036854775807) : (⟨(Lib.itoa n).toArray⟩ : ByteArray).size ≤ 9223372036854775807 := by
  have h := Lib.itoa_length_le n h0 h1
  show (Lib.itoa n).toArray.size ≤ _
  rw [List.size_toArray]
  omega
theorem number_at (n v : Int) (x : Bool) (h0 : -9223372036854775808 ≤ n) (h1 : n ≤ 9223372036854775807) (h : numV (Lib.itoa n) = (v, x)) (w : World) :
    Calls Tryd.prog 14 #[.string ⟨(Lib.itoa n).toArray⟩] w fun e w' => e = .returned (.tuple #[.int .i64 v, .bool x]) ∧ Below w.heap.size w w' :=
  (number_any ⟨(Lib.itoa n).toArray⟩ w (itoa_le n h0 h1)).mono fun e w' ⟨he, hw⟩ => ⟨he.trans (ret_ib (by rw [itoa_size, h]) (by rw [itoa_size, h])), hw⟩

set_option maxHeartbeats 400000 in
theorem numBack_any (n : Int) (h0 : -9223372036854775808 ≤ n) (h1 : n ≤ 9223372036854775807) (w : World) (hT : Tab w) :
    Calls Tryd.prog 6 #[.int .i64 n] w fun e w' => e = .returned (.bool true) ∧ Below w.heap.size w w' := by
  have HT := Lib.hid hT
  clear hT
  by_cases hn : 0 ≤ n
  · have C := fun W => Lib.hid (number_at n n true h0 h1 (num_back hn h1) W)
    go_enter Tryd.func6, Tryd.ntmps6
    go_wp2_with fail
    refine (awake_any _ HT.out).mono ?_
    rintro e w1 ⟨rfl, hb⟩
    have HT1 := Lib.hid (HT.out.below hb)
    go_wp2_with fail
    refine (show_any _ h0 h1 _ HT1.out).mono ?_
    rintro e w2 ⟨rfl, hb2⟩
    have hb3 := hb.trans (hb2.mono hb.size)
    go_wp2_with fail
    refine ((C _).out).mono ?_
    rintro e w3 ⟨rfl, hb4⟩
    have hb5 := hb3.trans (hb4.mono hb3.size)
    go_wp2
    go_ret
    exact ⟨by simp, hb5⟩
  · have C := fun W => Lib.hid (number_at n 0 false h0 h1 (num_neg (by omega)) W)
    go_enter Tryd.func6, Tryd.ntmps6
    go_wp2_with fail
    refine (awake_any _ HT.out).mono ?_
    rintro e w1 ⟨rfl, hb⟩
    have HT1 := Lib.hid (HT.out.below hb)
    go_wp2_with fail
    refine (show_any _ h0 h1 _ HT1.out).mono ?_
    rintro e w2 ⟨rfl, hb2⟩
    have hb3 := hb.trans (hb2.mono hb.size)
    go_wp2_with fail
    refine ((C _).out).mono ?_
    rintro e w3 ⟨rfl, hb4⟩
    have hb5 := hb3.trans (hb4.mono hb3.size)
    go_wp2
    go_ret
    exact ⟨by simp [hn], hb5⟩

theorem cellsTab : Tryd.prog.cellsOf 52 = 20 := by kernel_rfl
theorem cellsU64 : Tryd.prog.cellsOf 38 = 1 := by kernel_rfl
theorem gPowType : (Tryd.prog.globals[0]?).map (·.type) = some 52 := by kernel_rfl
/-- What the rows' list gives: the table of powers. -/
theorem tab_of {W : World} (h : laidMetH Tryd.prog Rows.numDoesRow.laid W) : Tab W := by
  have h1 : laidMet Tryd.prog [("math/bits.deBruijn32tab", Rows.laid_math_bits_deBruijn32tab), ("math/bits.deBruijn64tab", Rows.laid_math_bits_deBruijn64tab), ("internal/strconv.uint64pow10", Rows.laid_internal_strconv_uint64pow10)] W := h
  exact Lib.tabIs_of_head (rest := []) gPow gPowType Tryd.underlying52 Tryd.underlying38 cellsU64 cellsTab h1.tail.tail
end NumD
end Go.Proofs.YtdjojekaacbcjaaDoor
