/- The example of the chapter. -/
import Derived.Test.YtlmckgghickahaaDoorLabelParse
namespace Go.Proofs.YtlmckgghickahaaDoor
open Go.RowKit Go.Shelf
namespace LabelM
theorem showL_inj {L K : Nat} (hL : L < M64) (hK : K < M64) (h : showL L = showL K) : L = K := by
  have h0 : Lib.join ((finsL L).map fun y => Lib.decDigits y.val) [44] = Lib.join ((finsL K).map fun y => Lib.decDigits y.val) [44] := by
    have h1 := (List.cons.inj h).2
    exact List.append_cancel_right h1
  by_cases hz : L = 0
  · subst hz
    by_cases hk : K = 0
    · exact hk.symm
    · rw [finsL_zero] at h0
      exact absurd h0.symm (inner_ne hK hk)
  · by_cases hk : K = 0
    · subst hk
      rw [finsL_zero] at h0
      exact absurd h0 (inner_ne hL hz)
    · have a := split_show hL hz ⟨(Lib.join ((finsL L).map fun y => Lib.decDigits y.val) [44]).toArray⟩ rfl
      have b := split_show hK hk ⟨(Lib.join ((finsL L).map fun y => Lib.decDigits y.val) [44]).toArray⟩ h0
      have c := congrArg (List.map Lib.atoiAll) (a.symm.trans b)
      rw [List.map_map, List.map_map] at c
      have hd : ∀ l : List (Fin 64), l.map (Lib.atoiAll ∘ fun y => Lib.decDigits y.val) = (l.map fun y => (y.val : Int)).map Lib.NumEnd.ok := fun l => by
        rw [List.map_map]
        exact List.map_congr_left fun y _ => dec_atoi y
      rw [hd, hd] at c
      have d := (List.map_inj_right (fun a b h => by injection h)).1 c
      have e := congrArg (fun l => LabelD.ofGo l 0) d
      simp only [LabelD.ofGo_fins, LabelD.fold_fins hL, LabelD.fold_fins hK] at e
      injection e
end LabelM
namespace LabelD
open LabelM

theorem show9 : showL 9 = [123, 48, 44, 51, 125] := by decide +kernel
theorem parse9 {e : Ending} (h : ParseIs [123, 48, 44, 51, 125] e) : e = .returned (.tuple #[.int .u64 9, .bool true]) := by
  rcases h with ⟨L, hL, h1, rfl⟩ | ⟨h1, -⟩
  · rw [showL_inj hL (by decide) (h1.symm.trans show9.symm)]
    rfl
  · exact absurd show9.symm (h1 9 (by decide))

theorem join2 (a b : Nat) (ha : a < M64) (hb : b < M64) (w : World) :
    Calls Tryd.prog 12 #[.slice (some ⟨w.heap.size, 0, none⟩) 2 2] (w.alloc (.cells #[.int .u64 a, .int .u64 b] 24)) fun e w' => e = .returned (.int .u64 ((a ||| b : Nat) : Int)) ∧ w.alloc (.cells #[.int .u64 a, .int .u64 b] 24) = w' := by
  have h := join_any w.heap.size 0 2 [a, b] (by intro x hx; simp at hx; rcases hx with rfl | rfl <;> assumption) (by simp) (w.alloc (.cells #[.int .u64 a, .int .u64 b] 24)) (by
    intro j x hx
    rw [World.cell?_alloc_at _ _ _ _ rfl]
    match j, hx with
    | 0, hx => simp at hx; subst hx; rfl
    | 1, hx => simp at hx; subst hx; rfl)
  rw [show joinL [a, b] = a ||| b by simp [joinL]] at h
  exact h

set_option maxRecDepth 100000 in
set_option maxHeartbeats 1000000 in
theorem awake_any (w : World) (hT : Tabs w) :
    Calls Tryd.prog 10 #[] w fun e w' => e = .returned (.bool true) ∧ Below w.heap.size w w' := by
  have HP := Lib.hid (parse_any ⟨#[123, 48, 44, 51, 125]⟩ (by decide) w hT)
  have HT := Lib.hid hT
  clear hT
  have HF1 := fun W => Lib.hid (flows_any 1 9 (by decide) (by decide) W)
  have HF2 := fun W => Lib.hid (flows_any 9 1 (by decide) (by decide) W)
  rw [show flowsB 1 9 = true by decide] at HF1
  rw [show flowsB 9 1 = false by decide] at HF2
  go_enter Tryd.func10, Tryd.ntmps10
  go_wp2_with fail
  refine (HP.out).mono ?_
  rintro e w1 ⟨he, hb1⟩
  obtain rfl := parse9 he
  clear he
  have HT1 : Hid (Tabs w1) := Lib.hid (HT.out.below hb1 HT.out.lo)
  have HJ := Lib.hid (join2 1 8 (by decide) (by decide) w1)
  go_wp2_with fail
  refine (HJ.out).mono ?_
  rintro e w2 ⟨rfl, hw2⟩
  have hb2 : Below w1.heap.size w1 w2 := by rw [← hw2]; exact (Below.refl _ _).alloc (Nat.le_refl _) _
  clear hw2
  have HT2 : Hid (Tabs w2) := Lib.hid (HT1.out.below hb2 HT1.out.lo)
  have HS := Lib.hid (callsIn_wide.1 (show_in 9 (by decide) w2 HT2.out.bru (Nat.lt_of_lt_of_le (by decide) HT2.out.lo)))
  rw [show9] at HS
  go_wp2_with fail
  refine (HS.out).mono ?_
  rintro e w3 ⟨rfl, hb3⟩
  go_wp2_with fail
  refine ((HF1 _).out).mono ?_
  rintro e w4 ⟨rfl, rfl⟩
  go_wp2_with fail
  refine ((HF2 _).out).mono ?_
  rintro e w5 ⟨rfl, rfl⟩
  go_wp2
  go_ret
  exact ⟨rfl, (hb1.trans (hb2.mono hb1.size)).trans (hb3.mono (Nat.le_trans hb1.size hb2.size))⟩
end LabelD
end Go.Proofs.YtlmckgghickahaaDoor
