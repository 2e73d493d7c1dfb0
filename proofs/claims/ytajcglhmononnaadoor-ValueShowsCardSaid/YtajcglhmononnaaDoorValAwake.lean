/- The examples of the chapter. -/
import Derived.Test.YtajcglhmononnaaDoorVal4
namespace Go.Proofs.YtajcglhmononnaaDoor
open Go.RowKit ObjM
namespace ValD
open NumM LabelM LabelD NumD

theorem lt_ab : flagV (ltV 6 ⟨3, 0, ⟨#[97]⟩, 0⟩ ⟨3, 0, ⟨#[97, 98]⟩, 0⟩) = ⟨1, 1, ⟨#[]⟩, 0⟩ := by
  have : ltV 6 ⟨3, 0, ⟨#[97]⟩, 0⟩ ⟨3, 0, ⟨#[97, 98]⟩, 0⟩ = true := by decide +kernel
  rw [this]
  rfl
theorem add_23 : doV 1 2 3 = 5 := by decide +kernel

set_option maxRecDepth 100000 in
set_option maxHeartbeats 1000000 in
theorem awake_any (w : World) : Calls Tryd.prog 4 #[] w fun e w' => e = .returned (.bool true) ∧ Below w.heap.size w w' := by
  have H1 : ∀ W, Hid (Calls Tryd.prog 10 #[.int .i64 1, .agg #[.int .i64 2, .int .i64 2, .string ⟨#[]⟩, .int .u64 1], .agg #[.int .i64 2, .int .i64 3, .string ⟨#[]⟩, .int .u64 2]] W fun e w' => e = .returned (.tuple #[.agg #[.int .i64 2, .int .i64 5, .string ⟨#[]⟩, .int .u64 3], .string ⟨#[]⟩]) ∧ Below W.heap.size W w') :=
    fun W => Lib.hid (do_ok 1 ⟨2, 2, ⟨#[]⟩, 1⟩ ⟨2, 3, ⟨#[]⟩, 2⟩ ⟨2, 5, ⟨#[]⟩, 0⟩ (by decide) (by decide) (by decide) (fun W' => by have h := answer_add ⟨2, 2, ⟨#[]⟩, 1⟩ ⟨2, 3, ⟨#[]⟩, 2⟩ rfl rfl W'; rw [add_23] at h; exact h) W)
  have H2 : ∀ W, Hid (Calls Tryd.prog 10 #[.int .i64 6, .agg #[.int .i64 3, .int .i64 0, .string ⟨#[97]⟩, .int .u64 0], .agg #[.int .i64 3, .int .i64 0, .string ⟨#[97, 98]⟩, .int .u64 0]] W fun e w' => e = .returned (.tuple #[.agg #[.int .i64 1, .int .i64 1, .string ⟨#[]⟩, .int .u64 0], .string ⟨#[]⟩]) ∧ Below W.heap.size W w') :=
    fun W => Lib.hid (do_ok 6 ⟨3, 0, ⟨#[97]⟩, 0⟩ ⟨3, 0, ⟨#[97, 98]⟩, 0⟩ ⟨1, 1, ⟨#[]⟩, 0⟩ (by decide) (by decide) (by decide) (fun W' => by have h := answer_cmp 6 (.inl rfl) ⟨3, 0, ⟨#[97]⟩, 0⟩ ⟨3, 0, ⟨#[97, 98]⟩, 0⟩ rfl (.inr rfl) W'; rw [lt_ab] at h; exact h) W)
  go_enter Tryd.func4, Tryd.ntmps4
  go_wp2_with fail
  with_reducible refine ((H1 _).out).mono ?_
  rintro e w1 ⟨rfl, hb1⟩
  have B1 := Lib.hid hb1
  clear hb1
  go_wp2_with fail
  with_reducible refine ((H2 _).out).mono ?_
  rintro e w2 ⟨rfl, hb2⟩
  have hv := (Has.new w1 25 [.int .i64 2, .int .i64 5, .string ⟨#[]⟩, .int .u64 3]).below hb2 (by simp)
  have c0 := hv.cell 0
  have c1 := hv.cell 1
  have c2 := hv.cell 2
  have c3 := hv.cell 3
  have hlt := hv.lt
  simp at c0 c1 c2 c3
  have HB := Lib.hid (B1.out.trans ((alloc1.trans (hb2.mono (by simp))).mono B1.out.size))
  clear hv hb2
  go_wp2
  go_ret
  exact ⟨by simp, HB.out.alloc (Nat.le_trans B1.out.size (by omega)) _⟩
end ValD
end Go.Proofs.YtajcglhmononnaaDoor
