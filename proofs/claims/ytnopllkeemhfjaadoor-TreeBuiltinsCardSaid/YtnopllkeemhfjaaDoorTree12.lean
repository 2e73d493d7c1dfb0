/- TreeBuiltins. -/
import Derived.Test.YtnopllkeemhfjaaDoorTreeTabs
namespace Go.Proofs.YtnopllkeemhfjaaDoor
open Go.RowKit ObjM
namespace TreeD

theorem builtins_tabs {W : World} (h : laidMetH Tryd.prog Rows.treeBuiltinsRow.laid W) (hs : W.ShapedOpen Tryd.prog) : Tb W := tb_of h hs
set_option maxRecDepth 100000 in
set_option maxHeartbeats 4000000 in
theorem treeBuiltins_u (s : ByteArray) (hs : s.size ≤ 9223372036854775807) (w : World) (hT : Tb w) :
    Calls Tryd.prog 3 #[.string s] w fun e w' => e = .returned (.bool true) ∧ Below w.heap.size w w' := by
  have HA := Lib.hid (awake_any w hT)
  have HP := fun W => Lib.hid (builtin_any s W)
  have HR := fun W => Lib.hid (refBuiltin_any s W)
  generalize builtinV s = d at HP HR
  clear hT
  by_cases hl : 1000 < s.size
  · have hli : (1000 : Int) < (s.size : Int) := by omega
    go_enter Tryd.func3, Tryd.ntmps3
    go_wp2_with fail
    refine (HA.out).mono ?_
    rintro e w1 ⟨rfl, hb1⟩
    go_wp2
    go_ret
    exact ⟨rfl, hb1⟩
  · have hli : ¬ (1000 : Int) < (s.size : Int) := by omega
    go_enter Tryd.func3, Tryd.ntmps3
    go_wp2_with fail
    refine (HA.out).mono ?_
    rintro e w1 ⟨rfl, hb1⟩
    have HB1 := Lib.hid hb1
    clear hb1 HA
    go_wp2_with fail
    refine ((HP _).out).mono ?_
    rintro e w2 ⟨rfl, hw⟩
    subst hw
    go_wp2_with fail
    refine ((HR _).out).mono ?_
    rintro e w3 ⟨rfl, hw⟩
    subst hw
    go_wp2
    go_ret
    exact ⟨rfl, HB1.out⟩
end TreeD
end Go.Proofs.YtnopllkeemhfjaaDoor
