/- Whether a kind may be. -/
import Derived.Test.YtpmbbkhhnkhcbaaTab5
namespace Go.Proofs.Ytpmbbkhhnkhcbaa
open Go.RowKit ObjM Go.Maps
namespace TabD
open LabelM LabelD ValD

def mayB (ks k : Int) : Bool := decide (0 ≤ k) && decide (k ≤ 62) && (bits BinOp.and IntKind.i64 (ks / 2 ^ k.toNat) 1 == 1)
def MayIs (w : World) (b : Bool) (e : Ending) (w' : World) : Prop := e = .returned (.bool b) ∧ w = w'
set_option maxRecDepth 100000 in
set_option maxHeartbeats 1000000 in
theorem may_any (ks k : Int) (w : World) : Calls Try.prog 41 #[.int .i64 ks, .int .i64 k] w (MayIs w (mayB ks k)) := by
  by_cases h0 : 0 ≤ k
  · by_cases h1 : k ≤ 62
    · obtain ⟨n, rfl⟩ : ∃ n : Nat, k = n := ⟨k.toNat, by omega⟩
      have hn : n ≤ 62 := by omega
      have hm : mayB ks n = (bits BinOp.and IntKind.i64 (ks / 2 ^ n) 1 == 1) := by simp [mayB, h1]
      rw [hm]
      clear hm
      go_enter Try.func41, Try.ntmps41
      go_wp2
      exact bodyPost_ret (v := .bool (bits BinOp.and IntKind.i64 (ks / 2 ^ n) 1 == 1)) (by simp [results, Try.results41, go_sem]) rfl ⟨rfl, rfl⟩
    · have hm : mayB ks k = false := by simp [mayB, h1]
      rw [hm]
      clear hm
      go_enter Try.func41, Try.ntmps41
      go_wp2
      exact bodyPost_ret (v := .bool false) (by simp [results, Try.results41, go_sem]) rfl ⟨rfl, rfl⟩
  · have hm : mayB ks k = false := by simp [mayB, h0]
    rw [hm]
    clear hm
    go_enter Try.func41, Try.ntmps41
    go_wp2
    exact bodyPost_ret (v := .bool false) (by simp [results, Try.results41, go_sem]) rfl ⟨rfl, rfl⟩
end TabD
end Go.Proofs.Ytpmbbkhhnkhcbaa
