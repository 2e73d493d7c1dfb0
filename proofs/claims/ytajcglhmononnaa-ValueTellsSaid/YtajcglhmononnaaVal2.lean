/- Not. -/
import Derived.Test.YtajcglhmononnaaVal
namespace Go.Proofs.Ytajcglhmononnaa
open Go.RowKit ObjM
namespace ValD
open NumM LabelM LabelD

def notV (a : V) : V := (flagV (!truthB a)).with a.l
set_option maxRecDepth 100000 in
set_option maxHeartbeats 1000000 in
theorem vtruth_x (a : V) (w : World) : Calls Try.prog 14 #[a.agg] w fun e w' => e = .returned (.bool (truthB a)) ∧ w.alloc (.cells a.cells 25) = w' := by
  obtain ⟨ak, an, sa, al⟩ := a
  simp only [V.agg, V.cells]
  go_enter Try.func14, Try.ntmps14
  go_wp2
  all_goals
    go_ret
    exact ⟨ret_bool (by simp_all [truthB]), by simp_all⟩
set_option maxRecDepth 100000 in
set_option maxHeartbeats 1000000 in
theorem refTruth_x (a : V) (w : World) : Calls Try.prog 15 #[a.agg] w fun e w' => e = .returned (.bool (truthB a)) ∧ w.alloc (.cells a.cells 25) = w' := by
  obtain ⟨ak, an, sa, al⟩ := a
  simp only [V.agg, V.cells]
  go_enter Try.func15, Try.ntmps15
  go_wp2
  all_goals
    go_ret
    exact ⟨ret_bool (by simp_all [truthB]), by simp_all⟩
set_option maxRecDepth 100000 in
set_option maxHeartbeats 1000000 in
theorem truth_x (b : Bool) (w : World) : Calls Try.prog 30 #[.bool b] w fun e w' => e = .returned (flagV b).agg ∧ w.alloc (.cells (flagV b).cells 25) = w' := by
  cases b
  all_goals
    go_enter Try.func30, Try.ntmps30
    go_wp2
  · exact bodyPost_ret (v := (flagV false).agg) (by simp [results, Try.results30, go_sem, flagV, V.agg]) rfl ⟨rfl, rfl⟩
  · exact bodyPost_ret (v := (flagV true).agg) (by simp [results, Try.results30, go_sem, flagV, V.agg]) rfl ⟨rfl, rfl⟩
set_option maxRecDepth 100000 in
set_option maxHeartbeats 1000000 in
theorem flag_x (b : Bool) (w : World) : Calls Try.prog 31 #[.bool b] w fun e w' => e = .returned (flagV b).agg ∧ w.alloc (.cells (flagV b).cells 25) = w' := by
  cases b
  all_goals
    go_enter Try.func31, Try.ntmps31
    go_wp2
  · exact bodyPost_ret (v := (flagV false).agg) (by simp [results, Try.results31, go_sem, flagV, V.agg]) rfl ⟨rfl, rfl⟩
  · exact bodyPost_ret (v := (flagV true).agg) (by simp [results, Try.results31, go_sem, flagV, V.agg]) rfl ⟨rfl, rfl⟩

theorem bcell {W w1 : World} (hb : Below W.heap.size W w1) : (∀ b o, b < W.heap.size → w1.cell? ⟨b, o, none⟩ = W.cell? ⟨b, o, none⟩) ∧ (∀ b o, b < W.heap.size → w1.frozen? ⟨b, o, none⟩ = W.frozen? ⟨b, o, none⟩) :=
  ⟨fun b o h => hb.cell (p := ⟨b, o, none⟩) h, fun b o h => hb.frozen (p := ⟨b, o, none⟩) h⟩
theorem flag_l (b : Bool) : (flagV b).l < M64 := by cases b <;> exact (by decide : (0 : Nat) < M64)
set_option maxRecDepth 100000 in
set_option maxHeartbeats 2000000 in
theorem not_any (a : V) (ha : a.l < M64) (w : World) : Calls Try.prog 18 #[a.agg] w fun e w' => e = .returned (notV a).agg ∧ Below w.heap.size w w' := by
  have HT := fun W => Lib.hid (vtruth_x a W)
  have HF := fun W => Lib.hid (truth_x (!truthB a) W)
  have HW := fun lv W hj => Lib.hid (with_any (flagV (!truthB a)) lv a.l (flag_l _) ha W hj)
  have hn : notV a = (flagV (!truthB a)).with a.l := rfl
  rw [hn]
  clear hn
  have HJ := fun (n : Nat) W hc => join1_any a.l ha W n hc
  obtain ⟨tb, htb⟩ : ∃ tb, truthB a = tb := ⟨_, rfl⟩
  rw [htb] at HT HF HW ⊢
  clear htb
  obtain ⟨⟨fk, fn, fs, fl⟩, hf⟩ : ∃ f, flagV (!tb) = f := ⟨_, rfl⟩
  rw [hf] at HF HW ⊢
  clear hf
  obtain ⟨ak, an, sa, al⟩ := a
  simp only [V.agg, V.cells, V.with] at HT HF HW HJ ⊢
  go_enter Try.func18, Try.ntmps18
  go_wp2
  go_region_with
    (first
      | (go_at_call 14
         with_reducible refine ((HT _).out).mono ?_
         rintro e w1 ⟨rfl, hw⟩
         subst hw)
      | (go_at_call 30
         with_reducible refine ((HF _).out).mono ?_
         rintro e w1 ⟨rfl, hw⟩
         subst hw)
      | (go_at_call 23
         with_reducible refine ((HW _ _ (fun W' hb => HJ _ W' ((hb.cell (p := ⟨_, 0, none⟩) (by simp)).trans (by go_simp)))).out).mono ?_
         rintro e w1 ⟨rfl, hb1⟩
         obtain ⟨hc, hf⟩ := bcell hb1
         have hz := hb1.size
         have hB : Below w.heap.size w w1 := Below.trans (by repeat (first | exact Below.refl _ _ | refine Below.drew ?_ | refine Below.alloc ?_ (by simp; try omega) _)) (hb1.mono (by simp; try omega))
         clear hb1
         simp at hz hc hf))
  all_goals
    go_wp2
    refine bodyPost_ret (v := .agg #[.int .i64 fk, .int .i64 fn, .string fs, .int .u64 ((fl ||| al : Nat) : Int)]) (by simp [results, Try.results18, go_sem, hc]) rfl ⟨rfl, ?_⟩
    exact (((hB.setCell (by simp) _).setCell (by simp) _).setCell (by simp) _).setCell (by simp) _
end ValD
end Go.Proofs.Ytajcglhmononnaa
