/- The walks of the laws of layer 15, from the contracts. -/
import Derived.Test.YtndhgejibpmckaaDoorInstrDec2
import Derived.Test.YtndhgejibpmckaaDoorRows
namespace Go.Proofs.YtndhgejibpmckaaDoor
open Go.RowKit
namespace InstrD
open InstrM

theorem answers {w : Int} (h0 : 0 ≤ w) (h1 : w ≤ 4294967295) : answer w (rF w) (wOf w (rF w)) = answer w (kF w) (wOf w (kF w)) := by
  have h := dec_same h0 h1
  by_cases h2 : wOf w (kF w) = (w, 0)
  · rw [h.1 h2]
  · by_cases h3 : wOf w (rF w) = (w, 0)
    · rw [h.2 h3]
    · rw [answer, if_neg h3, answer, if_neg h2]
theorem answer_form (w : Int) (f : Four) (E : Int × Int) : ∃ p0 p1 p2 p3 p4 y : Int, answer w f E = .tuple #[.agg #[.int .i64 p0, .int .i64 p1, .int .i64 p2, .int .i64 p3, .int .i64 p4], .int .i64 y] := by
  unfold answer
  split
  · exact ⟨_, _, _, _, _, _, rfl⟩
  · exact ⟨_, _, _, _, _, _, rfl⟩
/-- A word that is written is read again. -/
theorem back {op a b c d x : Int} (h : wordV op a b c d = (x, 0)) : 0 ≤ x ∧ x ≤ 4294967295 ∧ x % 256 = op ∧ kF x = ⟨a, b, c, d⟩ := by
  unfold wordV at h
  split at h
  case isFalse =>
    have := congrArg Prod.snd h
    simp at this
  case isTrue hv =>
    obtain rfl : sumW op a b c d = x := congrArg Prod.fst h
    rcases form_cases op with hf | ⟨hf, o0, o1⟩
    · rw [hf] at hv
      simp [validB] at hv
    · have hne : (formOf op).isEmpty = false := by rcases hf with hf | hf | hf | hf | hf <;> rw [hf] <;> rfl
      have hok := (valid_iff rfl hne).1 hv
      have hbd := sum_bd rfl hne hok.1 hok.2.1 hok.2.2.1 hok.2.2.2
      have hop : sumW op a b c d % 256 = op := by unfold sumW; omega
      refine ⟨hbd.2.1, hbd.2.2, hop, ?_⟩
      unfold kF
      rw [hop]
      rcases hf with hf | hf | hf | hf | hf <;> rw [hf] at hv ⊢
      all_goals
        simp only [decF, numW, shiftV, show ((65 : UInt8).toNat : Int) = 65 from rfl, show ((66 : UInt8).toNat : Int) = 66 from rfl, show ((67 : UInt8).toNat : Int) = 67 from rfl, show ((68 : UInt8).toNat : Int) = 68 from rfl]
        simp [validB] at hv
        simp [sumW]
        (try unfold s16)
        omega
theorem awake_1 : wordV 11 1 2 3 0 = (50462987, 0) := by decide +kernel
theorem awake_2 : wordV 34 0 0 0 (-1) = (4294901794, 0) := by decide +kernel

set_option maxHeartbeats 400000 in
theorem awake_any (w : World) (hT : Tabs w) :
    Calls Tryd.prog 8 #[] w fun e w' => e = .returned (.bool true) ∧ Below w.heap.size w w' := by
  have H1 := fun W h => Lib.hid (encode_all 11 1 2 3 0 (by omega) (by omega) W h)
  have H2 := fun W h => Lib.hid (encode_all 34 0 0 0 (-1) (by omega) (by omega) W h)
  rw [awake_1] at H1
  rw [awake_2] at H2
  have HT := Lib.hid hT
  clear hT
  go_enter Tryd.func8, Tryd.ntmps8
  go_wp2_with fail
  refine ((H1 _ HT.out).out).mono ?_
  rintro e w1 ⟨rfl, hb⟩
  have HT1 := Lib.hid (HT.out.below hb)
  go_wp2_with fail
  refine ((H2 _ HT1.out).out).mono ?_
  rintro e w2 ⟨rfl, hb2⟩
  have hb3 := hb.trans (hb2.mono hb.size)
  go_wp2
  go_ret
  exact ⟨rfl, hb3⟩

set_option maxHeartbeats 400000 in
theorem instrWrites_any (op a b c d : Int) (o0 : -9223372036854775808 ≤ op) (o1 : op ≤ 9223372036854775807) (w : World) (hT : Tabs w) :
    Calls Tryd.prog 3 #[.agg #[.int .i64 op, .int .i64 a, .int .i64 b, .int .i64 c, .int .i64 d]] w fun e w' => e = .returned (.bool true) ∧ Below w.heap.size w w' := by
  have H1 := fun W h => Lib.hid (encode_all op a b c d o0 o1 W h)
  have H2 := fun W => Lib.hid (refEncode_any op a b c d W)
  have HT := Lib.hid hT
  clear hT o0 o1
  go_enter Tryd.func3, Tryd.ntmps3
  go_wp2_with fail
  refine (awake_any _ (HT.out.below ((Below.refl _ _).alloc (Nat.le_refl _) _))).mono ?_
  rintro e w1 ⟨rfl, hb⟩
  have hbw : Below w.heap.size w w1 := ((Below.refl _ _).alloc (Nat.le_refl _) _).trans (hb.mono (by simp))
  have HT1 := Lib.hid (HT.out.below hbw)
  have hA := (hb.block w.heap.size (by simp)).trans (alloc_new w _)
  obtain ⟨d0, d1, d2, d3, d4, _⟩ := ins_at hA
  go_wp2_with fail
  refine ((H1 _ HT1.out).out).mono ?_
  rintro e w2 ⟨rfl, hb2⟩
  have hb3 := hbw.trans (hb2.mono hbw.size)
  have hA2 := (hb2.block w.heap.size (by have := hb.size; simp at this; omega)).trans hA
  clear d0 d1 d2 d3 d4
  obtain ⟨d0, d1, d2, d3, d4, _⟩ := ins_at hA2
  go_wp2_with fail
  refine ((H2 _).out).mono ?_
  rintro e w3 ⟨rfl, hb4⟩
  have hb5 := hb3.trans (hb4.mono hb3.size)
  go_wp2
  go_ret
  exact ⟨by simp, hb5⟩
set_option maxHeartbeats 400000 in
theorem instrReads_any (w0 : Int) (h0 : 0 ≤ w0) (h1 : w0 ≤ 4294967295) (w : World) (hT : Tabs w) :
    Calls Tryd.prog 4 #[.int .u32 w0] w fun e w' => e = .returned (.bool true) ∧ Below w.heap.size w w' := by
  have H1 := fun W h => Lib.hid (decode_any w0 h0 h1 W h)
  have H2 := fun W => Lib.hid (refDecode_any w0 h0 h1 W)
  rw [answers h0 h1] at H2
  obtain ⟨p0, p1, p2, p3, p4, y, hp⟩ := answer_form w0 (kF w0) (wOf w0 (kF w0))
  rw [hp] at H1 H2
  have HT := Lib.hid hT
  clear hT hp
  go_enter Tryd.func4, Tryd.ntmps4
  go_wp2_with fail
  refine (awake_any _ HT.out).mono ?_
  rintro e w1 ⟨rfl, hb⟩
  have HT1 := Lib.hid (HT.out.below hb)
  go_wp2_with fail
  refine ((H1 _ HT1.out).out).mono ?_
  rintro e w2 ⟨rfl, hb2⟩
  have hb3 := hb.trans (hb2.mono hb.size)
  go_wp2_with fail
  refine ((H2 _).out).mono ?_
  rintro e w3 ⟨rfl, hb4⟩
  have hb5 := (hb3.alloc hb3.size _).trans (hb4.mono (by have := hb3.size; simp only [World.size_alloc]; omega))
  obtain ⟨d0, d1, d2, d3, d4, _⟩ := ins_at ((hb4.block w2.heap.size (by simp)).trans (alloc_new w2 _))
  have z2 : w2.heap.size < w3.heap.size := by have := hb4.size; simp only [World.size_alloc] at this; omega
  go_wp2
  go_ret
  exact ⟨by simp, hb5.alloc hb5.size _⟩

set_option maxHeartbeats 400000 in
theorem instrForms_any (op : Int) (o0 : -9223372036854775808 ≤ op) (o1 : op ≤ 9223372036854775807) (w : World) (hT : Tabs w) :
    Calls Tryd.prog 5 #[.int .i64 op] w fun e w' => e = .returned (.bool true) ∧ Below w.heap.size w w' := by
  have H1 := fun W => Lib.hid (row_any op W)
  have H2 := fun W h => Lib.hid (name_any op o0 o1 W h)
  have H3 := fun W h => Lib.hid (form_any op o0 o1 W h)
  have HT := Lib.hid hT
  clear hT o0 o1
  go_enter Tryd.func5, Tryd.ntmps5
  go_wp2_with fail
  refine (awake_any _ HT.out).mono ?_
  rintro e w1 ⟨rfl, hb⟩
  have HT1 := Lib.hid (HT.out.below hb)
  go_wp2_with fail
  refine ((H1 _).out).mono ?_
  rintro e w2 ⟨rfl, hb2⟩
  have hb3 := hb.trans (hb2.mono hb.size)
  have HT2 := Lib.hid (HT1.out.below hb2)
  go_wp2_with fail
  refine ((H2 _ HT2.out).out).mono ?_
  rintro e w3 ⟨rfl, hb4⟩
  have hb5 := hb3.trans (hb4.mono hb3.size)
  have HT3 := Lib.hid (HT2.out.below hb4)
  go_wp2_with fail
  refine ((H3 _ HT3.out).out).mono ?_
  rintro e w4 ⟨rfl, hb6⟩
  have hb7 := hb5.trans (hb6.mono hb5.size)
  go_wp2
  go_ret
  exact ⟨by simp, hb7⟩

/-- What is read of a word that is none, or of one that is. -/
theorem read_cases (w : Int) :
    (answer w (kF w) (wOf w (kF w)) = .tuple #[.agg #[.int .i64 0, .int .i64 0, .int .i64 0, .int .i64 0, .int .i64 0], .int .i64 1]) ∨
    ∃ a b c d : Int, answer w (kF w) (wOf w (kF w)) = .tuple #[.agg #[.int .i64 (w % 256), .int .i64 a, .int .i64 b, .int .i64 c, .int .i64 d], .int .i64 0] ∧ wordV (w % 256) a b c d = (w, 0) := by
  by_cases h : wOf w (kF w) = (w, 0)
  · right
    exact ⟨_, _, _, _, by rw [answer, if_pos h], h⟩
  · left
    rw [answer, if_neg h]
theorem read_back {op a b c d x : Int} (h : wordV op a b c d = (x, 0)) : answer x (kF x) (wOf x (kF x)) = .tuple #[.agg #[.int .i64 op, .int .i64 a, .int .i64 b, .int .i64 c, .int .i64 d], .int .i64 0] := by
  obtain ⟨_, _, h3, h4⟩ := back h
  have h5 : wOf x (kF x) = (x, 0) := by unfold wOf; rw [h4, h3]; exact h
  rw [answer, if_pos h5, h4, h3]

set_option maxHeartbeats 1000000 in
theorem instrBack_any (op a b c d w0 : Int) (o0 : -9223372036854775808 ≤ op) (o1 : op ≤ 9223372036854775807) (h0 : 0 ≤ w0) (h1 : w0 ≤ 4294967295) (w : World) (hT : Tabs w) :
    Calls Tryd.prog 7 #[.agg #[.int .i64 op, .int .i64 a, .int .i64 b, .int .i64 c, .int .i64 d], .int .u32 w0] w fun e w' => e = .returned (.bool true) ∧ Below w.heap.size w w' := by
  have H1 := fun W h => Lib.hid (encode_all op a b c d o0 o1 W h)
  have HD := fun W h => Lib.hid (decode_any w0 h0 h1 W h)
  have HT := Lib.hid hT
  rcases read_cases w0 with hr | ⟨qa, qb, qc, qd, hr, hw⟩
  · rw [hr] at HD
    clear hr
    by_cases hv : (wordV op a b c d).2 = 0
    · obtain ⟨x, hx⟩ : ∃ x, wordV op a b c d = (x, 0) := ⟨(wordV op a b c d).1, Prod.ext rfl hv⟩
      obtain ⟨b0, b1, _, _⟩ := back hx
      have HX := fun W h => Lib.hid (decode_any x b0 b1 W h)
      rw [read_back hx] at HX
      rw [hx] at H1
      clear hv hx hT o0 o1
      go_enter Tryd.func7, Tryd.ntmps7
      go_wp2_with fail
      refine (awake_any _ (HT.out.below ((Below.refl _ _).alloc (Nat.le_refl _) _))).mono ?_
      rintro e w1 ⟨rfl, hb⟩
      have hbw : Below w.heap.size w w1 := ((Below.refl _ _).alloc (Nat.le_refl _) _).trans (hb.mono (by simp))
      have z1 : w.heap.size < w1.heap.size := by have := hb.size; simp only [World.size_alloc] at this; omega
      have HT1 := Lib.hid (HT.out.below hbw)
      have hA := (hb.block w.heap.size (by simp)).trans (alloc_new w _)
      obtain ⟨d0, d1, d2, d3, d4, _⟩ := ins_at hA
      go_wp2_with fail
      refine ((H1 _ HT1.out).out).mono ?_
      rintro e w2 ⟨rfl, hb2⟩
      have hb3 := hbw.trans (hb2.mono hbw.size)
      have hA2 := (hb2.block w.heap.size z1).trans hA
      have HT2 := Lib.hid (HT1.out.below hb2)
      have z2 := hb2.size
      clear d0 d1 d2 d3 d4
      obtain ⟨d0, d1, d2, d3, d4, _⟩ := ins_at hA2
      go_wp2_with fail
      refine ((HX _ HT2.out).out).mono ?_
      rintro e w3 ⟨rfl, hb4⟩
      have hb5 := (hb3.trans (hb4.mono hb3.size)).alloc (by have := hb4.size; omega) (.cells #[.int .i64 op, .int .i64 a, .int .i64 b, .int .i64 c, .int .i64 d] 23)
      have hA3 := (hb4.block w.heap.size (by omega)).trans hA2
      have HT3 := Lib.hid (HT.out.below hb5)
      have z3 := hb4.size
      have z4 : w.heap.size < w3.heap.size := by omega
      clear d0 d1 d2 d3 d4
      obtain ⟨d0, d1, d2, d3, d4, _⟩ := ins_at hA3
      go_wp2_with fail
      refine ((HD _ HT3.out).out).mono ?_
      rintro e w4 ⟨rfl, hb6⟩
      have hb7 := hb5.trans (hb6.mono hb5.size)
      go_wp2
      go_ret
      exact ⟨by simp, hb7.alloc hb7.size _⟩
    · have h2 : (wordV op a b c d).2 = 1 := by
        rcases word_err op a b c d with h | h
        · exact absurd h hv
        · exact h
      obtain ⟨x, hx⟩ : ∃ x, wordV op a b c d = (x, 1) := ⟨(wordV op a b c d).1, Prod.ext rfl h2⟩
      rw [hx] at H1
      clear hv hx h2 hT o0 o1
      go_enter Tryd.func7, Tryd.ntmps7
      go_wp2_with fail
      refine (awake_any _ (HT.out.below ((Below.refl _ _).alloc (Nat.le_refl _) _))).mono ?_
      rintro e w1 ⟨rfl, hb⟩
      have hbw : Below w.heap.size w w1 := ((Below.refl _ _).alloc (Nat.le_refl _) _).trans (hb.mono (by simp))
      have z1 : w.heap.size < w1.heap.size := by have := hb.size; simp only [World.size_alloc] at this; omega
      have HT1 := Lib.hid (HT.out.below hbw)
      have hA := (hb.block w.heap.size (by simp)).trans (alloc_new w _)
      obtain ⟨d0, d1, d2, d3, d4, _⟩ := ins_at hA
      go_wp2_with fail
      refine ((H1 _ HT1.out).out).mono ?_
      rintro e w2 ⟨rfl, hb2⟩
      have hb3 := hbw.trans (hb2.mono hbw.size)
      have hA2 := (hb2.block w.heap.size z1).trans hA
      have HT2 := Lib.hid (HT1.out.below hb2)
      have z2 := hb2.size
      clear d0 d1 d2 d3 d4
      go_wp2_with fail
      refine ((HD _ HT2.out).out).mono ?_
      rintro e w4 ⟨rfl, hb6⟩
      have hb7 := hb3.trans (hb6.mono hb3.size)
      go_wp2
      go_ret
      exact ⟨by simp, hb7.alloc hb7.size _⟩
  · rw [hr] at HD
    have HJ := fun W h => Lib.hid (encode_all (w0 % 256) qa qb qc qd (by omega) (by omega) W h)
    rw [hw] at HJ
    clear hr hw
    by_cases hv : (wordV op a b c d).2 = 0
    · obtain ⟨x, hx⟩ : ∃ x, wordV op a b c d = (x, 0) := ⟨(wordV op a b c d).1, Prod.ext rfl hv⟩
      obtain ⟨b0, b1, _, _⟩ := back hx
      have HX := fun W h => Lib.hid (decode_any x b0 b1 W h)
      rw [read_back hx] at HX
      rw [hx] at H1
      clear hv hx hT o0 o1
      go_enter Tryd.func7, Tryd.ntmps7
      go_wp2_with fail
      refine (awake_any _ (HT.out.below ((Below.refl _ _).alloc (Nat.le_refl _) _))).mono ?_
      rintro e w1 ⟨rfl, hb⟩
      have hbw : Below w.heap.size w w1 := ((Below.refl _ _).alloc (Nat.le_refl _) _).trans (hb.mono (by simp))
      have z1 : w.heap.size < w1.heap.size := by have := hb.size; simp only [World.size_alloc] at this; omega
      have HT1 := Lib.hid (HT.out.below hbw)
      have hA := (hb.block w.heap.size (by simp)).trans (alloc_new w _)
      obtain ⟨d0, d1, d2, d3, d4, _⟩ := ins_at hA
      go_wp2_with fail
      refine ((H1 _ HT1.out).out).mono ?_
      rintro e w2 ⟨rfl, hb2⟩
      have hb3 := hbw.trans (hb2.mono hbw.size)
      have hA2 := (hb2.block w.heap.size z1).trans hA
      have HT2 := Lib.hid (HT1.out.below hb2)
      have z2 := hb2.size
      clear d0 d1 d2 d3 d4
      obtain ⟨d0, d1, d2, d3, d4, _⟩ := ins_at hA2
      go_wp2_with fail
      refine ((HX _ HT2.out).out).mono ?_
      rintro e w3 ⟨rfl, hb4⟩
      have hb5 := (hb3.trans (hb4.mono hb3.size)).alloc (by have := hb4.size; omega) (.cells #[.int .i64 op, .int .i64 a, .int .i64 b, .int .i64 c, .int .i64 d] 23)
      have hA3 := (hb4.block w.heap.size (by omega)).trans hA2
      have HT3 := Lib.hid (HT.out.below hb5)
      have z3 := hb4.size
      have z4 : w.heap.size < w3.heap.size := by omega
      clear d0 d1 d2 d3 d4
      obtain ⟨d0, d1, d2, d3, d4, _⟩ := ins_at hA3
      go_wp2_with fail
      refine ((HD _ HT3.out).out).mono ?_
      rintro e w4 ⟨rfl, hb6⟩
      have hb7 := hb5.trans (hb6.mono hb5.size)
      have hb8 := hb7.alloc hb7.size (.cells #[.int .i64 (w0 % 256), .int .i64 qa, .int .i64 qb, .int .i64 qc, .int .i64 qd] 23)
      have HT4 := Lib.hid (HT.out.below hb8)
      go_wp2_with fail
      refine ((HJ _ HT4.out).out).mono ?_
      rintro e w5 ⟨rfl, hb9⟩
      have hb10 := hb8.trans (hb9.mono hb8.size)
      go_wp2
      go_ret
      exact ⟨by simp, hb10⟩
    · have h2 : (wordV op a b c d).2 = 1 := by
        rcases word_err op a b c d with h | h
        · exact absurd h hv
        · exact h
      obtain ⟨x, hx⟩ : ∃ x, wordV op a b c d = (x, 1) := ⟨(wordV op a b c d).1, Prod.ext rfl h2⟩
      rw [hx] at H1
      clear hv hx h2 hT o0 o1
      go_enter Tryd.func7, Tryd.ntmps7
      go_wp2_with fail
      refine (awake_any _ (HT.out.below ((Below.refl _ _).alloc (Nat.le_refl _) _))).mono ?_
      rintro e w1 ⟨rfl, hb⟩
      have hbw : Below w.heap.size w w1 := ((Below.refl _ _).alloc (Nat.le_refl _) _).trans (hb.mono (by simp))
      have z1 : w.heap.size < w1.heap.size := by have := hb.size; simp only [World.size_alloc] at this; omega
      have HT1 := Lib.hid (HT.out.below hbw)
      have hA := (hb.block w.heap.size (by simp)).trans (alloc_new w _)
      obtain ⟨d0, d1, d2, d3, d4, _⟩ := ins_at hA
      go_wp2_with fail
      refine ((H1 _ HT1.out).out).mono ?_
      rintro e w2 ⟨rfl, hb2⟩
      have hb3 := hbw.trans (hb2.mono hbw.size)
      have hA2 := (hb2.block w.heap.size z1).trans hA
      have HT2 := Lib.hid (HT1.out.below hb2)
      have z2 := hb2.size
      clear d0 d1 d2 d3 d4
      go_wp2_with fail
      refine ((HD _ HT2.out).out).mono ?_
      rintro e w4 ⟨rfl, hb6⟩
      have hb7 := hb3.trans (hb6.mono hb3.size)
      have hb8 := hb7.alloc hb7.size (.cells #[.int .i64 (w0 % 256), .int .i64 qa, .int .i64 qb, .int .i64 qc, .int .i64 qd] 23)
      have HT4 := Lib.hid (HT.out.below hb8)
      go_wp2_with fail
      refine ((HJ _ HT4.out).out).mono ?_
      rintro e w5 ⟨rfl, hb9⟩
      have hb10 := hb8.trans (hb9.mono hb8.size)
      go_wp2
      go_ret
      exact ⟨by simp, hb10⟩
end InstrD
end Go.Proofs.YtndhgejibpmckaaDoor
