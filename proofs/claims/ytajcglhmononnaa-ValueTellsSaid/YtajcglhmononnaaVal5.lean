/- The document's Not. -/
import Derived.Test.YtajcglhmononnaaVal2
namespace Go.Proofs.Ytajcglhmononnaa
open Go.RowKit ObjM
namespace ValD
open NumM LabelM LabelD

set_option maxRecDepth 100000 in
set_option maxHeartbeats 2000000 in
theorem refNot_any (a : V) (ha : a.l < M64) (w : World) : Calls Try.prog 19 #[a.agg] w fun e w' => e = .returned (notV a).agg ∧ Below w.heap.size w w' := by
  have HT := fun W => Lib.hid (refTruth_x a W)
  have HF := fun W => Lib.hid (flag_x (!truthB a) W)
  have HW := fun W => Lib.hid (refWith_any (flagV (!truthB a)) a.l (flag_l _) ha W)
  have hn : notV a = (flagV (!truthB a)).with a.l := rfl
  rw [hn]
  clear hn
  obtain ⟨tb, htb⟩ : ∃ tb, truthB a = tb := ⟨_, rfl⟩
  rw [htb] at HT HF HW ⊢
  clear htb
  obtain ⟨⟨fk, fn, fs, fl⟩, hf⟩ : ∃ f, flagV (!tb) = f := ⟨_, rfl⟩
  rw [hf] at HF HW ⊢
  clear hf
  obtain ⟨ak, an, sa, al⟩ := a
  simp only [V.agg, V.cells, V.with] at HT HF HW ⊢
  go_enter Try.func19, Try.ntmps19
  go_wp2
  go_region_with
    (first
      | (go_at_call 15
         with_reducible refine ((HT _).out).mono ?_
         rintro e w1 ⟨rfl, hw⟩
         subst hw)
      | (go_at_call 31
         with_reducible refine ((HF _).out).mono ?_
         rintro e w1 ⟨rfl, hw⟩
         subst hw)
      | (go_at_call 22
         with_reducible refine ((HW _).out).mono ?_
         rintro e w1 ⟨rfl, hb1⟩
         obtain ⟨hc, hf⟩ := bcell hb1
         have hz := hb1.size
         have hB : Below w.heap.size w w1 := Below.trans (by repeat (first | exact Below.refl _ _ | refine Below.drew ?_ | refine Below.alloc ?_ (by simp; try omega) _)) (hb1.mono (by simp; try omega))
         clear hb1
         simp at hz hc hf))
  all_goals
    go_wp2
    refine bodyPost_ret (v := .agg #[.int .i64 fk, .int .i64 fn, .string fs, .int .u64 ((fl ||| al : Nat) : Int)]) (by simp [results, Try.results19, go_sem, hc]) rfl ⟨rfl, ?_⟩
    exact (((hB.setCell (by simp) _).setCell (by simp) _).setCell (by simp) _).setCell (by simp) _
end ValD
end Go.Proofs.Ytajcglhmononnaa
