/- The walk of LabelShows. -/
import Derived.Test.YtlmckgghickahaaDoorLabelTabs
import Derived.Test.YtlmckgghickahaaDoorLabelRef
namespace Go.Proofs.YtlmckgghickahaaDoor
open Go.RowKit
namespace LabelD
open LabelM

theorem parse_show {L : Nat} (hL : L < M64) {e : Ending} (h : ParseIs (showL L) e) : e = .returned (.tuple #[.int .u64 (L : Int), .bool true]) := by
  rcases h with ⟨K, hK, h1, rfl⟩ | ⟨h1, -⟩
  · rw [showL_inj hL hK h1]
  · exact absurd rfl (h1 L hL)
theorem showL_len {L : Nat} : (showL L).length ≤ 200 := by
  have h1 := join_len (finsL L)
  have h2 := finsL_len L
  unfold showL
  simp
  omega

set_option maxRecDepth 100000 in
set_option maxHeartbeats 1000000 in
theorem labelShows_any (L : Nat) (hL : L < M64) (w : World) (hT : Tabs w) :
    Calls Tryd.prog 6 #[.int .u64 L] w fun e w' => e = .returned (.bool true) ∧ Below w.heap.size w w' := by
  have HA := Lib.hid (awake_any w hT)
  have HT := Lib.hid hT
  have HR := fun W => Lib.hid (refShow_any L hL W)
  have HShow := fun (W : World) (h : Tabs W) => callsIn_wide.1 (show_in L hL W h.bru (Nat.lt_of_lt_of_le (by decide) h.lo))
  have HPs := fun (W : World) (h : Tabs W) => parse_any ⟨(showL L).toArray⟩ (by have := showL_len (L := L); simp [ByteArray.size]; omega) W h
  have HPq := Lib.hid (fun (e : Ending) (h : ParseIs (showL L) e) => parse_show hL h)
  clear hT hL
  obtain ⟨S, hS⟩ : ∃ S : ByteArray, ⟨(showL L).toArray⟩ = S := ⟨_, rfl⟩
  simp only [hS] at HR HShow
  simp only [hS] at HPs
  clear hS
  have HSH := Lib.hid HShow
  have HPS := Lib.hid HPs
  clear HShow HPs
  go_enter Tryd.func6, Tryd.ntmps6
  go_wp2_with fail
  refine (HA.out).mono ?_
  rintro e w1 ⟨rfl, hb1⟩
  have HT1 : Hid (Tabs w1) := Lib.hid (HT.out.below hb1 HT.out.lo)
  have H1 := Lib.hid (HSH.out w1 HT1.out)
  go_wp2_with fail
  refine (H1.out).mono ?_
  rintro e w2 ⟨rfl, hb2⟩
  have HT2 : Hid (Tabs w2) := Lib.hid (HT1.out.below hb2 HT1.out.lo)
  have H2 := Lib.hid (HPS.out w2 HT2.out)
  go_wp2_with fail
  refine (H2.out).mono ?_
  rintro e w3 ⟨he, hb3⟩
  obtain rfl := HPq.out _ he
  clear he
  go_wp2_with fail
  refine ((HR _).out).mono ?_
  rintro e w4 ⟨rfl, hb4⟩
  go_wp2
  go_ret
  have h2 := hb1.trans (hb2.mono hb1.size)
  have h3 := h2.trans (hb3.mono h2.size)
  exact ⟨by simp, h3.trans (hb4.mono h3.size)⟩
theorem labelShows_u (a : Int) (ha : 0 ≤ a ∧ a ≤ 18446744073709551615) (w : World) (hT : Tabs w) :
    Calls Tryd.prog 6 #[.int .u64 a] w fun e w' => e = .returned (.bool true) ∧ Below w.heap.size w w' := by
  obtain ⟨n, rfl⟩ : ∃ n : Nat, a = n := ⟨a.toNat, by omega⟩
  exact labelShows_any n (by unfold M64; omega) w hT
end LabelD
end Go.Proofs.YtlmckgghickahaaDoor
