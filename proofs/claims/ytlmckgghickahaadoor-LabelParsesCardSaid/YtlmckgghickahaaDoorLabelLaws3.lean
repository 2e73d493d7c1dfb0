/- The walk of LabelParses. -/
import Derived.Test.YtlmckgghickahaaDoorLabelTabs
import Derived.Test.YtlmckgghickahaaDoorLabelRefParse
namespace Go.Proofs.YtlmckgghickahaaDoor
open Go.RowKit
namespace LabelD
open LabelM

/-- Two ways of reading come to the same. -/
theorem parses_same {s : List UInt8} {e f : Ending} (h : ParseIs s e) (g : ParseIs s f) : e = f := by
  rcases h with ⟨L, hL, h1, rfl⟩ | ⟨h1, rfl⟩
  · rcases g with ⟨K, hK, g1, rfl⟩ | ⟨g1, rfl⟩
    · rw [showL_inj hL hK (h1.symm.trans g1)]
    · exact absurd h1 (g1 L hL)
  · rcases g with ⟨K, hK, g1, rfl⟩ | ⟨g1, rfl⟩
    · exact absurd g1 (h1 K hK)
    · rfl
theorem parses_tuple {s : List UInt8} {e : Ending} (h : ParseIs s e) : ∃ (L : Nat) (b : Bool), e = .returned (.tuple #[.int .u64 (L : Int), .bool b]) := by
  rcases h with ⟨L, hL, h1, rfl⟩ | ⟨h1, rfl⟩
  · exact ⟨L, true, rfl⟩
  · exact ⟨0, false, rfl⟩

set_option maxRecDepth 100000 in
set_option maxHeartbeats 1000000 in
theorem labelParses_any (t : List UInt8) (w : World) (hm : t.length ≤ 9223372036854775807) (hT : Tabs w) :
    Calls Tryd.prog 7 #[.string ⟨⟨t⟩⟩] w fun e w' => e = .returned (.bool true) ∧ Below w.heap.size w w' := by
  have HA := Lib.hid (awake_any w hT)
  have HT := Lib.hid hT
  clear hT
  by_cases hlen : 1000 < t.length
  · go_enter Tryd.func7, Tryd.ntmps7
    go_wp2_with fail
    refine (HA.out).mono ?_
    rintro e w1 ⟨rfl, hb1⟩
    go_wp2
    go_ret
    exact ⟨rfl, hb1⟩
  · have hl : t.length ≤ 1000 := by omega
    clear hlen
    have HPs := Lib.hid (fun (W : World) (h : Tabs W) => parse_any ⟨⟨t⟩⟩ (by simp [ByteArray.size]; omega) W h)
    have HRs := fun (W : World) => Lib.hid (refParse_any t (by omega) W)
    go_enter Tryd.func7, Tryd.ntmps7
    go_wp2_with fail
    refine (HA.out).mono ?_
    rintro e w1 ⟨rfl, hb1⟩
    have HT1 : Hid (Tabs w1) := Lib.hid (HT.out.below hb1 HT.out.lo)
    have H2 := Lib.hid (HPs.out w1 HT1.out)
    go_wp2_with fail
    refine (H2.out).mono ?_
    rintro e w2 ⟨he, hb2⟩
    have HE := Lib.hid he
    obtain ⟨L, b, rfl⟩ := parses_tuple he
    clear he
    go_wp2_with fail
    refine ((HRs _).out).mono ?_
    rintro e w3 ⟨he, hb3⟩
    obtain rfl := parses_same HE.out he
    clear he
    go_wp2
    go_ret
    have h2 := hb1.trans (hb2.mono hb1.size)
    exact ⟨by simp, h2.trans (hb3.mono h2.size)⟩
theorem labelParses_u (s : ByteArray) (hs : s.size ≤ 9223372036854775807) (w : World) (hT : Tabs w) :
    Calls Tryd.prog 7 #[.string s] w fun e w' => e = .returned (.bool true) ∧ Below w.heap.size w w' := by
  obtain ⟨⟨t⟩⟩ := s
  exact labelParses_any t w hs hT
end LabelD
end Go.Proofs.YtlmckgghickahaaDoor
