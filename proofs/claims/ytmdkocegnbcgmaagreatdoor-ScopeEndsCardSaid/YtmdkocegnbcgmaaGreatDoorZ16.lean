/- The contracts of num.Show and of the document's own, and of the examples' function. -/
import Derived.Test.YtmdkocegnbcgmaaGreatDoorZ15
import Derived.Lib.LaidTab
namespace Go.Proofs.YtmdkocegnbcgmaaGreatDoor
open Go.RowKit
namespace NumD
open NumM

theorem TabIs_below {P : Program} {n : String} {g : Nat} {k : IntKind} {zs : List Int} {w w' : World} (hg : P.globalNamed n = some g) (h : Lib.TabIs P w n k zs) (hb : Below w.heap.size w w') : Lib.TabIs P w' n k zs := by
  unfold Lib.TabIs World.var? at h ⊢
  rw [hg] at h ⊢
  simp only [Option.bind_some] at h ⊢
  have hlt : g < w.heap.size := by
    rcases Nat.lt_or_ge g w.heap.size with h' | h'
    · exact h'
    · rw [Array.getElem?_eq_none h'] at h
      cases h
  rw [hb.block g hlt]
  exact h
theorem below_grow (w : World) (k : Nat) (os : Array Obj) : Below w.heap.size w (Go.Sort.grow (w.drewN k) os) :=
  ⟨rfl, rfl, rfl, by show w.heap.size ≤ (w.heap ++ os).size; rw [Array.size_append]; omega, fun j hj => by show (w.heap ++ os)[j]? = _; rw [Array.getElem?_append_left hj]⟩
abbrev Tab (w : World) : Prop := Lib.TabIs Tryz.prog w "internal/strconv.uint64pow10" .u64 Lib.pow10Tab
theorem gPow : Tryz.prog.globalNamed "internal/strconv.uint64pow10" = some 2 := by kernel_rfl
theorem Tab.below {w w' : World} (h : Tab w) (hb : Below w.heap.size w w') : Tab w' := TabIs_below gPow h hb

set_option maxHeartbeats 400000 in
theorem show_any (n : Int) (h0 : -9223372036854775808 ≤ n) (h1 : n ≤ 9223372036854775807) (w : World) (hT : Tab w) :
    Calls Tryz.prog 109 #[.int .i64 n] w fun e w' => e = .returned (.string ⟨(Lib.itoa n).toArray⟩) ∧ Below w.heap.size w w' := by
  have HT := Lib.hid hT
  clear hT
  go_enter Tryz.func109, Tryz.ntmps109
  go_wp2_with fail
  refine (Tryz.strconv_FormatInt_10 n h0 h1 _ HT.out).mono ?_
  rintro e w' ⟨rfl, k, os, rfl⟩
  have hb := below_grow w k os
  go_wp2
  go_ret
  exact ⟨rfl, hb⟩
set_option maxHeartbeats 400000 in
theorem refShow_any (n : Int) (h0 : -9223372036854775808 ≤ n) (h1 : n ≤ 9223372036854775807) (w : World) (hT : Tab w) :
    Calls Tryz.prog 46 #[.int .i64 n] w fun e w' => e = .returned (.string ⟨(Lib.itoa n).toArray⟩) ∧ Below w.heap.size w w' := by
  have HT := Lib.hid hT
  clear hT
  go_enter Tryz.func46, Tryz.ntmps46
  go_wp2_with fail
  refine (Tryz.strconv_FormatInt_10 n h0 h1 _ HT.out).mono ?_
  rintro e w' ⟨rfl, k, os, rfl⟩
  have hb := below_grow w k os
  go_wp2
  go_ret
  exact ⟨rfl, hb⟩

theorem number_ff (w : World) : Calls Tryz.prog 108 #[.string ⟨#[48, 120, 102, 102]⟩] w fun e w' => e = .returned (.tuple #[.int .i64 255, .bool true]) ∧ Below w.heap.size w w' :=
  (number_any ⟨#[48, 120, 102, 102]⟩ w (show 4 ≤ 9223372036854775807 by omega)).mono fun e w' ⟨he, hw⟩ => ⟨he.trans (ret_ib (show (numV [48, 120, 102, 102]).1 = 255 by decide +kernel) (show (numV [48, 120, 102, 102]).2 = true by decide +kernel)), hw⟩
theorem show_5 (w : World) (hT : Tab w) : Calls Tryz.prog 109 #[.int .i64 (-5)] w fun e w' => e = .returned (.string ⟨#[45, 53]⟩) ∧ Below w.heap.size w w' :=
  (show_any (-5) (by omega) (by omega) w hT).mono fun e w' ⟨he, hw⟩ => ⟨he.trans (show Ending.returned (.string ⟨(Lib.itoa (-5)).toArray⟩) = _ by rw [show Lib.itoa (-5) = [45, 53] by decide +kernel]), hw⟩

end NumD
end Go.Proofs.YtmdkocegnbcgmaaGreatDoor
