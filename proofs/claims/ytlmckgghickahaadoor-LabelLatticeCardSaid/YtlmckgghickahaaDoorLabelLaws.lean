/- The walks of the laws of layer 1, from the contracts. -/
import Derived.Test.YtlmckgghickahaaDoorLabelTabs
namespace Go.Proofs.YtlmckgghickahaaDoor
open Go.RowKit
namespace LabelD
open LabelM

set_option maxHeartbeats 400000 in
theorem labelFlows_any (a b : Nat) (ha : a < M64) (hb : b < M64) (w : World) (hT : Tabs w) :
    Calls Tryd.prog 4 #[.int .u64 a, .int .u64 b] w fun e w' => e = .returned (.bool true) ∧ Below w.heap.size w w' := by
  have HA := Lib.hid (awake_any w hT)
  have H1 := fun W => Lib.hid (flows_any a b ha hb W)
  have H2 := fun W => Lib.hid (refFlows_any a b ha hb W)
  clear ha hb hT
  go_enter Tryd.func4, Tryd.ntmps4
  go_wp2_with fail
  refine (HA.out).mono ?_
  rintro e w1 ⟨rfl, hb⟩
  go_wp2_with fail
  refine ((H1 _).out).mono ?_
  rintro e w2 ⟨rfl, rfl⟩
  go_wp2_with fail
  refine ((H2 _).out).mono ?_
  rintro e w2 ⟨rfl, rfl⟩
  go_wp2
  go_ret
  exact ⟨by simp, hb⟩

set_option maxHeartbeats 1000000 in
theorem labelLattice_any (a b : Nat) (ha : a < M64) (hb : b < M64) (w : World) (hT : Tabs w) :
    Calls Tryd.prog 8 #[.int .u64 a, .int .u64 b] w fun e w' => e = .returned (.bool true) ∧ Below w.heap.size w w' := by
  have HA := Lib.hid (awake_any w hT)
  have H1 := fun W => Lib.hid (flows_any a b ha hb W)
  have H2 := fun W => Lib.hid (join2 a b ha hb W)
  have H3 := fun W => Lib.hid (meet_any a b ha hb W)
  have HJ := Lib.hid (flows_join a b)
  have HM := Lib.hid (flows_meet a b)
  clear ha hb hT
  obtain ⟨f, hf⟩ : ∃ f, flowsB a b = f := ⟨_, rfl⟩
  rw [hf] at HJ HM
  simp only [hf] at H1
  obtain ⟨j, hj⟩ : ∃ j, a ||| b = j := ⟨_, rfl⟩
  obtain ⟨m, hm⟩ : ∃ m, a &&& b = m := ⟨_, rfl⟩
  simp only [hj] at H2 HJ
  simp only [hm] at H3 HM
  clear hf hj hm
  cases f
  case true =>
    obtain rfl : j = b := by simpa using HJ.out
    obtain rfl : m = a := by simpa using HM.out
    clear HJ HM
    go_enter Tryd.func8, Tryd.ntmps8
    go_wp2_with fail
    refine (HA.out).mono ?_
    rintro e w1 ⟨rfl, hb⟩
    go_wp2_with fail
    refine ((H1 _).out).mono ?_
    rintro e w2 ⟨rfl, rfl⟩
    go_wp2_with fail
    refine ((H2 _).out).mono ?_
    rintro e w3 ⟨rfl, hw3⟩
    have hb3 : Below w1.heap.size w1 w3 := by rw [← hw3]; exact (Below.refl _ _).alloc (Nat.le_refl _) _
    have hb4 := hb.trans (hb3.mono hb.size)
    clear hw3 hb3
    go_wp2_with fail
    refine ((H3 _).out).mono ?_
    rintro e w4 ⟨rfl, rfl⟩
    go_wp2
    go_ret
    exact ⟨by simp, hb4⟩
  case false =>
    have hj : ¬ (j : Int) = b := by have h := HJ.out; simp at h; omega
    have hm : ¬ (m : Int) = a := by have h := HM.out; simp at h; omega
    clear HJ HM
    go_enter Tryd.func8, Tryd.ntmps8
    go_wp2_with fail
    refine (HA.out).mono ?_
    rintro e w1 ⟨rfl, hb⟩
    go_wp2_with fail
    refine ((H1 _).out).mono ?_
    rintro e w2 ⟨rfl, rfl⟩
    go_wp2_with fail
    refine ((H2 _).out).mono ?_
    rintro e w3 ⟨rfl, hw3⟩
    have hb3 : Below w1.heap.size w1 w3 := by rw [← hw3]; exact (Below.refl _ _).alloc (Nat.le_refl _) _
    have hb4 := hb.trans (hb3.mono hb.size)
    clear hw3 hb3
    go_wp2_with fail
    refine ((H3 _).out).mono ?_
    rintro e w4 ⟨rfl, rfl⟩
    go_wp2
    go_ret
    exact ⟨by simp [hj, hm], hb4⟩

set_option maxRecDepth 100000 in
set_option maxHeartbeats 2000000 in
theorem labelLeast_any (a b c : Nat) (ha : a < M64) (hb : b < M64) (hc : c < M64) (w : World) (hT : Tabs w) :
    Calls Tryd.prog 9 #[.int .u64 a, .int .u64 b, .int .u64 c] w fun e w' => e = .returned (.bool true) ∧ Below w.heap.size w w' := by
  have HA := Lib.hid (awake_any w hT)
  have H2 := fun W => Lib.hid (join2 a b ha hb W)
  have H3 := fun W => Lib.hid (meet_any a b ha hb W)
  have hj := or_lt ha hb
  have hm : a &&& b < M64 := and_lt ha
  have F1 := fun W => Lib.hid (flows_any a (a ||| b) ha hj W)
  have F2 := fun W => Lib.hid (flows_any b (a ||| b) hb hj W)
  have F3 := fun W => Lib.hid (flows_any (a &&& b) a hm ha W)
  have F4 := fun W => Lib.hid (flows_any (a &&& b) b hm hb W)
  have F5 := fun W => Lib.hid (flows_any (a ||| b) c hj hc W)
  have F6 := fun W => Lib.hid (flows_any a c ha hc W)
  have F7 := fun W => Lib.hid (flows_any b c hb hc W)
  have F8 := fun W => Lib.hid (flows_any c (a &&& b) hc hm W)
  have F9 := fun W => Lib.hid (flows_any c a hc ha W)
  have FX := fun W => Lib.hid (flows_any c b hc hb W)
  simp only [flows_or_l] at F1
  simp only [flows_or_r] at F2
  simp only [flows_and_l] at F3
  simp only [flows_and_r] at F4
  simp only [flows_least] at F5
  simp only [flows_greatest] at F8
  clear ha hb hc hT hj hm
  obtain ⟨p, hp⟩ : ∃ f, flowsB a c = f := ⟨_, rfl⟩
  obtain ⟨q, hq⟩ : ∃ f, flowsB b c = f := ⟨_, rfl⟩
  obtain ⟨r, hr⟩ : ∃ f, flowsB c a = f := ⟨_, rfl⟩
  obtain ⟨t, ht⟩ : ∃ f, flowsB c b = f := ⟨_, rfl⟩
  simp only [hp, hq] at F5
  simp only [hp] at F6
  simp only [hq] at F7
  simp only [hr, ht] at F8
  simp only [hr] at F9
  simp only [ht] at FX
  obtain ⟨j, hj⟩ : ∃ j, a ||| b = j := ⟨_, rfl⟩
  obtain ⟨m, hm⟩ : ∃ m, a &&& b = m := ⟨_, rfl⟩
  simp only [hj] at H2 F1 F2 F5
  simp only [hm] at H3 F3 F4 F8
  clear hj hm hp hq hr ht
  go_enter Tryd.func9, Tryd.ntmps9
  go_wp2_with fail
  refine (HA.out).mono ?_
  rintro e w1 ⟨rfl, hb⟩
  go_wp2_with fail
  refine ((H2 _).out).mono ?_
  rintro e w3 ⟨rfl, hw3⟩
  have hb3 : Below w1.heap.size w1 w3 := by rw [← hw3]; exact (Below.refl _ _).alloc (Nat.le_refl _) _
  have hb4 := hb.trans (hb3.mono hb.size)
  clear hw3 hb3 hb
  go_wp2_with fail
  refine ((H3 _).out).mono ?_
  rintro e w4 ⟨rfl, rfl⟩
  go_wp2_with fail
  refine ((F1 _).out).mono ?_
  rintro e w4 ⟨rfl, rfl⟩
  go_wp2_with fail
  refine ((F2 _).out).mono ?_
  rintro e w4 ⟨rfl, rfl⟩
  go_wp2_with fail
  refine ((F3 _).out).mono ?_
  rintro e w4 ⟨rfl, rfl⟩
  go_wp2_with fail
  refine ((F4 _).out).mono ?_
  rintro e w4 ⟨rfl, rfl⟩
  cases p
  · simp only [Bool.false_and] at F5
    go_wp2_with fail
    refine ((F5 _).out).mono ?_
    rintro e w4 ⟨rfl, rfl⟩
    go_wp2_with fail
    refine ((F6 _).out).mono ?_
    rintro e w4 ⟨rfl, rfl⟩
    cases r
    · simp only [Bool.false_and] at F8
      go_wp2_with fail
      refine ((F8 _).out).mono ?_
      rintro e w4 ⟨rfl, rfl⟩
      go_wp2_with fail
      refine ((F9 _).out).mono ?_
      rintro e w4 ⟨rfl, rfl⟩
      go_wp2
      go_ret
      exact ⟨by simp, hb4⟩
    · simp only [Bool.true_and] at F8
      cases t
      · go_wp2_with fail
        refine ((F8 _).out).mono ?_
        rintro e w4 ⟨rfl, rfl⟩
        go_wp2_with fail
        refine ((F9 _).out).mono ?_
        rintro e w4 ⟨rfl, rfl⟩
        go_wp2_with fail
        refine ((FX _).out).mono ?_
        rintro e w4 ⟨rfl, rfl⟩
        go_wp2
        go_ret
        exact ⟨by simp, hb4⟩
      · go_wp2_with fail
        refine ((F8 _).out).mono ?_
        rintro e w4 ⟨rfl, rfl⟩
        go_wp2_with fail
        refine ((F9 _).out).mono ?_
        rintro e w4 ⟨rfl, rfl⟩
        go_wp2_with fail
        refine ((FX _).out).mono ?_
        rintro e w4 ⟨rfl, rfl⟩
        go_wp2
        go_ret
        exact ⟨by simp, hb4⟩
  · simp only [Bool.true_and] at F5
    cases q
    · go_wp2_with fail
      refine ((F5 _).out).mono ?_
      rintro e w4 ⟨rfl, rfl⟩
      go_wp2_with fail
      refine ((F6 _).out).mono ?_
      rintro e w4 ⟨rfl, rfl⟩
      go_wp2_with fail
      refine ((F7 _).out).mono ?_
      rintro e w4 ⟨rfl, rfl⟩
      cases r
      · simp only [Bool.false_and] at F8
        go_wp2_with fail
        refine ((F8 _).out).mono ?_
        rintro e w4 ⟨rfl, rfl⟩
        go_wp2_with fail
        refine ((F9 _).out).mono ?_
        rintro e w4 ⟨rfl, rfl⟩
        go_wp2
        go_ret
        exact ⟨by simp, hb4⟩
      · simp only [Bool.true_and] at F8
        cases t
        · go_wp2_with fail
          refine ((F8 _).out).mono ?_
          rintro e w4 ⟨rfl, rfl⟩
          go_wp2_with fail
          refine ((F9 _).out).mono ?_
          rintro e w4 ⟨rfl, rfl⟩
          go_wp2_with fail
          refine ((FX _).out).mono ?_
          rintro e w4 ⟨rfl, rfl⟩
          go_wp2
          go_ret
          exact ⟨by simp, hb4⟩
        · go_wp2_with fail
          refine ((F8 _).out).mono ?_
          rintro e w4 ⟨rfl, rfl⟩
          go_wp2_with fail
          refine ((F9 _).out).mono ?_
          rintro e w4 ⟨rfl, rfl⟩
          go_wp2_with fail
          refine ((FX _).out).mono ?_
          rintro e w4 ⟨rfl, rfl⟩
          go_wp2
          go_ret
          exact ⟨by simp, hb4⟩
    · go_wp2_with fail
      refine ((F5 _).out).mono ?_
      rintro e w4 ⟨rfl, rfl⟩
      go_wp2_with fail
      refine ((F6 _).out).mono ?_
      rintro e w4 ⟨rfl, rfl⟩
      go_wp2_with fail
      refine ((F7 _).out).mono ?_
      rintro e w4 ⟨rfl, rfl⟩
      cases r
      · simp only [Bool.false_and] at F8
        go_wp2_with fail
        refine ((F8 _).out).mono ?_
        rintro e w4 ⟨rfl, rfl⟩
        go_wp2_with fail
        refine ((F9 _).out).mono ?_
        rintro e w4 ⟨rfl, rfl⟩
        go_wp2
        go_ret
        exact ⟨by simp, hb4⟩
      · simp only [Bool.true_and] at F8
        cases t
        · go_wp2_with fail
          refine ((F8 _).out).mono ?_
          rintro e w4 ⟨rfl, rfl⟩
          go_wp2_with fail
          refine ((F9 _).out).mono ?_
          rintro e w4 ⟨rfl, rfl⟩
          go_wp2_with fail
          refine ((FX _).out).mono ?_
          rintro e w4 ⟨rfl, rfl⟩
          go_wp2
          go_ret
          exact ⟨by simp, hb4⟩
        · go_wp2_with fail
          refine ((F8 _).out).mono ?_
          rintro e w4 ⟨rfl, rfl⟩
          go_wp2_with fail
          refine ((F9 _).out).mono ?_
          rintro e w4 ⟨rfl, rfl⟩
          go_wp2_with fail
          refine ((FX _).out).mono ?_
          rintro e w4 ⟨rfl, rfl⟩
          go_wp2
          go_ret
          exact ⟨by simp, hb4⟩

theorem nat_of {x : Int} (h0 : 0 ≤ x) (h1 : x ≤ 18446744073709551615) : ∃ n : Nat, x = n ∧ n < M64 := ⟨x.toNat, by omega, by unfold M64; omega⟩
theorem labelFlows_u (a b : Int) (ha : 0 ≤ a ∧ a ≤ 18446744073709551615) (hb : 0 ≤ b ∧ b ≤ 18446744073709551615) (w : World) (hT : Tabs w) :
    Calls Tryd.prog 4 #[.int .u64 a, .int .u64 b] w fun e w' => e = .returned (.bool true) ∧ Below w.heap.size w w' := by
  obtain ⟨a, rfl, ha1⟩ := nat_of ha.1 ha.2
  obtain ⟨b, rfl, hb1⟩ := nat_of hb.1 hb.2
  exact labelFlows_any a b ha1 hb1 w hT
theorem labelLattice_u (a b : Int) (ha : 0 ≤ a ∧ a ≤ 18446744073709551615) (hb : 0 ≤ b ∧ b ≤ 18446744073709551615) (w : World) (hT : Tabs w) :
    Calls Tryd.prog 8 #[.int .u64 a, .int .u64 b] w fun e w' => e = .returned (.bool true) ∧ Below w.heap.size w w' := by
  obtain ⟨a, rfl, ha1⟩ := nat_of ha.1 ha.2
  obtain ⟨b, rfl, hb1⟩ := nat_of hb.1 hb.2
  exact labelLattice_any a b ha1 hb1 w hT
theorem labelLeast_u (a b c : Int) (ha : 0 ≤ a ∧ a ≤ 18446744073709551615) (hb : 0 ≤ b ∧ b ≤ 18446744073709551615) (hc : 0 ≤ c ∧ c ≤ 18446744073709551615) (w : World) (hT : Tabs w) :
    Calls Tryd.prog 9 #[.int .u64 a, .int .u64 b, .int .u64 c] w fun e w' => e = .returned (.bool true) ∧ Below w.heap.size w w' := by
  obtain ⟨a, rfl, ha1⟩ := nat_of ha.1 ha.2
  obtain ⟨b, rfl, hb1⟩ := nat_of hb.1 hb.2
  obtain ⟨c, rfl, hc1⟩ := nat_of hc.1 hc.2
  exact labelLeast_any a b c ha1 hb1 hc1 w hT
end LabelD
end Go.Proofs.YtlmckgghickahaaDoor
