/- The example: the check as a whole. -/
import Derived.Test.YtmdkocegnbcgmaaGreatDoorZ22
import Derived.Deep.RegionHeld3
namespace Go.Proofs.YtmdkocegnbcgmaaGreatDoor
open Go.RowKit ObjM
namespace TreeD

def exL : List Nd := [⟨3, ⟨#[]⟩, [], 0⟩, ⟨1, ⟨#[]⟩, [0], 0⟩]
theorem ex_deep : deepV exL = 2 := by decide +kernel
theorem ex_ok : ∀ n ∈ exL, NdOk n := by
  intro n hn
  simp only [exL, List.mem_cons, List.not_mem_nil, or_false] at hn
  rcases hn with rfl | rfl
  · exact ⟨by decide, by decide, by simp⟩
  · exact ⟨by decide, by decide, by simp⟩
theorem ex_at {w : World} {G Q : Nat} (hG : Has w G 40 [.int .i64 3, .string ⟨#[]⟩, .slice none 0 0, .int .i64 0, .int .i64 1, .string ⟨#[]⟩, .slice (some ⟨Q, 0, none⟩) 1 1, .int .i64 0]) (hQ : Has w Q 3 [.int .i64 0]) : NdsAt w (.slice (some ⟨G, 0, none⟩) 2 2) exL := by
  refine ⟨_, 2, rfl, .inr ⟨G, 0, rfl, hG.lt, fun i n hn => ?_⟩⟩
  match i, hn with
  | 0, hn =>
    simp [exL] at hn
    subst hn
    exact ⟨_, hG.cell 0, hG.cell 1, hG.cell 2, hG.cell 3, ⟨none, 0, rfl, .inl rfl⟩⟩
  | 1, hn =>
    simp [exL] at hn
    subst hn
    refine ⟨_, hG.cell 4, hG.cell 5, hG.cell 6, hG.cell 7, ⟨_, 1, rfl, .inr ⟨Q, 0, rfl, hQ.lt, fun j x hx => ?_⟩⟩⟩
    match j, hx with
    | 0, hx =>
      simp at hx
      subst hx
      exact hQ.cell 0
    | j + 1, hx => simp at hx
  | i + 2, hn => simp [exL] at hn
theorem cCatch_idle (p q : Addr) (w : World) :
    CallsD Tryz.prog 59 #[.pointer (some p), .pointer (some q)] .returning w fun e u' w' => e = .returned (.tuple #[]) ∧ u' = .returning ∧ w' = w := by
  refine callsD_of_wpS Tryz.func59 rfl fun c₀ cs hu => ?_
  apply wpS_seq
  apply wpS_region
  simp [wpOpsS, go_sem, recoverD, hu, Tryz.ntmps59, Exit.thenS]
  apply wpS_seq
  apply wpS_region
  simp [wpOpsS, go_sem, Exit.thenS]
  refine wpS_cond (t := false) (by simp [Act.eval, Array.replicate]) ?_
  simp only [Bool.false_eq_true, if_false]
  refine wpS_of_wp (wp_skip ?_)
  cases c₀
  simp_all [bodyPostS, results, Tryz.results59]
theorem infoBool : (Tryz.prog.info? 4).map (fun i => (i.zero, i.size, i.bytes)) = some (some (.bool false), 1, 1) := by kernel_rfl
set_option maxRecDepth 100000 in
set_option maxHeartbeats 8000000 in
theorem check_ok (G Q B : Nat) (w0 w : World) (hT : ∀ W, Below B w0 W → Tb W) (hBw : B ≤ w.heap.size) (hb0 : Below B w0 w) (hG : Has w G 40 [.int .i64 3, .string ⟨#[]⟩, .slice none 0 0, .int .i64 0, .int .i64 1, .string ⟨#[]⟩, .slice (some ⟨Q, 0, none⟩) 1 1, .int .i64 0]) (hQ : Has w Q 3 [.int .i64 0]) :
    Calls Tryz.prog 34 #[.slice (some ⟨G, 0, none⟩) 2 2] w fun e w' => e = .returned (.tuple #[.int .i64 0, .int .i64 0]) ∧ Below w.heap.size w w' := by
  obtain ⟨i0, hi, hz0, hz1, hz2⟩ := info_parts infoBool
  have hmf : ∀ (fn : Fn) (first cap : Array Value) (w : World), (Instr.makeFunc fn first cap).run Tryz.prog w = .ok (.func fn first cap) w := fun _ _ _ _ => rfl
  have r2 := Has.new w 3 [.int .i64 0]
  have hA1 : Below w.heap.size w (w.alloc (.cells #[.int .i64 0] 3)) := (Below.refl _ w).alloc (Nat.le_refl _) _
  have r3 := Has.new (w.alloc (.cells #[.int .i64 0] 3)) 34 [.int .i64 0]
  have hA2 : Below (w.heap.size + 1) (w.alloc (.cells #[.int .i64 0] 3)) ((w.alloc (.cells #[.int .i64 0] 3)).alloc (.cells #[.int .i64 0] 34)) := (Below.refl _ _).alloc (by simp) _
  have r2b := r2.below hA2 (by omega)
  have hBA : Below w.heap.size w ((w.alloc (.cells #[.int .i64 0] 3)).alloc (.cells #[.int .i64 0] 34)) := hA1.trans (hA2.mono (by omega))
  simp only [World.size_alloc] at r3
  have hsA : ((w.alloc (.cells #[.int .i64 0] 3)).alloc (.cells #[.int .i64 0] 34)).heap.size = w.heap.size + 1 + 1 := by simp
  have hGA := hG.below hBA hG.lt
  have hQA := hQ.below hBA hQ.lt
  go_enter_defers Tryz.func34, Tryz.ntmps34
  go_wp2_with (at_make; refine wpList_make_full _ rfl _ _ 44 rfl (w.heap.size + 1 + 1) 4 i0 (.bool false) 1 Tryz.underlying44 hi hz0 hz1 .i64 .i64 2 2 2 rfl rfl rfl rfl ?c1 ?c2 ?c3 ?_)
  case c1 => rw [hz2]; omega
  case c2 => unfold maxLen; omega
  case c3 => simp
  intro w1 hrow hgrow
  have hD1 : Has w1 (w.heap.size + 1 + 1) 4 [.bool false, .bool false] := by
    rcases own_shape hrow with ⟨h, _⟩ | ⟨g, cap, cs, h1, h2, h3, h4, h5, h6, h7⟩
    · cases h
    · injection h1 with e1 e2 e3
      injection e1 with e1
      injection e1 with e1
      subst e1 e3
      rw [Nat.mul_one] at h6 h7
      rw [List.take_of_length_le (by omega)] at h7
      have h8 : (madeCells #[Value.bool false] 2).toList = List.replicate 2 (.bool false) := toList_madeCells_one _ _
      have h9 : cs = [.bool false, .bool false] := h7.trans h8
      rw [← h9]
      exact h3
  have hg1 : Below (w.heap.size + 1 + 1) ((w.alloc (.cells #[.int .i64 0] 3)).alloc (.cells #[.int .i64 0] 34)) w1 := (Below.refl _ _).grown hgrow (by omega) (fun k hk => by cases hk)
  have hG1 := hGA.below hg1 (by have := hG.lt; omega)
  have hQ1 := hQA.below hg1 (by have := hQ.lt; omega)
  have hTA : ∀ W, Below (w.heap.size + 1 + 1) ((w.alloc (.cells #[.int .i64 0] 3)).alloc (.cells #[.int .i64 0] 34)) W → Tb W := fun W h => hT W (hb0.trans ((hBA.mono hBw).trans (h.mono (by omega))))
  clear hrow hgrow hi hz0 hz1 hz2 hGA hQA r2 hA1 hA2 hG hQ hT hb0
  have hc := Has.new w1 88 [.slice (some ⟨G, 0, none⟩) 2 2, .slice (some ⟨w.heap.size + 1 + 1, 0, none⟩) 2 2]
  have hbc : Below w1.heap.size w1 (w1.alloc (.cells #[.slice (some ⟨G, 0, none⟩) 2 2, .slice (some ⟨w.heap.size + 1 + 1, 0, none⟩) 2 2] 88)) := (Below.refl _ w1).alloc (Nat.le_refl _) _
  have hG2 := hG1.below hbc hG1.lt
  have hQ2 := hQ1.below hbc hQ1.lt
  have hD2 := hD1.below hbc hD1.lt
  have HE : Hid (Ex (w1.alloc (.cells #[.slice (some ⟨G, 0, none⟩) 2 2, .slice (some ⟨w.heap.size + 1 + 1, 0, none⟩) 2 2] 88)) w1.heap.size G Q (w.heap.size + 1 + 1)) := Lib.hid ⟨hc, hG2, hQ2⟩
  have HD := Lib.hid hD2
  have hs1 := hg1.size
  have HB2 := Lib.hid (hg1.trans (hbc.mono (by omega)))
  have hs2 := HB2.out.size
  rw [hsA] at hs2
  clear hG1 hQ1 hD1 hc hbc hG2 hQ2 hD2 hg1 hs1
  have HBA := Lib.hid hBA
  have R2 := Lib.hid r2b
  have R3 := Lib.hid r3
  have HSA := Lib.hid hsA
  have HTA := Lib.hid hTA
  clear hBA r2b r3 hsA hTA
  generalize (w.alloc (.cells #[.int .i64 0] 3)).alloc (.cells #[.int .i64 0] 34) = wA at HBA R2 R3 HSA HTA HB2
  go_wp2
  change (Code.loop _).wp _ _ _ (World.alloc w1 _)
  generalize World.alloc w1 (.cells #[.slice (some ⟨G, 0, none⟩) 2 2, .slice (some ⟨w.heap.size + 1 + 1, 0, none⟩) 2 2] 88) = w2 at HE HD HB2 hs2 ⊢
  generalize w1.heap.size = C at HE ⊢
  have HN0 := Lib.hid (node0_ok C G Q (w.heap.size + 1 + 1) (w.heap.size + 1 + 1) false false wA w2 HTA.out hs2 HB2.out HE.out HD.out)
  clear HE HD
  refine wp_loop_rounds 3 ?_
  rw [rounds_succ]
  go_wp2_with fail
  refine (HN0.out).mono ?_
  rintro e w3 ⟨rfl, hb3, hE3, hD3⟩
  have HN1 := Lib.hid (node1_ok C G Q (w.heap.size + 1 + 1) (w.heap.size + 1 + 1) false wA w3 HTA.out (by have := hb3.size; rw [HSA.out] at this; exact this) (Nat.le_refl _) hb3 hE3 hD3)
  clear hb3 hE3 hD3 HN0
  go_wp2
  rw [rounds_succ]
  go_wp2_with fail
  refine (HN1.out).mono ?_
  rintro e w4 ⟨rfl, hb4, hE4, hD4⟩
  have HW := Lib.hid (whole_ok C G Q (w.heap.size + 1 + 1) false w4 hE4 hD4)
  have HDp := Lib.hid (deep_any exL _ w4 (ex_at hE4.g hE4.q) ex_ok (by decide))
  have HB4 := Lib.hid hb4
  clear hb4 hE4 hD4 HN1
  rw [ex_deep] at HDp
  go_wp2
  rw [rounds_succ]
  go_wp2_with fail
  refine (HW.out).mono ?_
  rintro e w5 ⟨rfl, rfl⟩
  go_wp2_with fail
  refine (HDp.out).mono ?_
  rintro e w5 ⟨rfl, hb5⟩
  have HB5 := Lib.hid (HB4.out.trans (hb5.mono (by have := HB4.out.size; rw [HSA.out] at this; exact this)))
  clear hb5
  have p0 := R2.out.below HB5.out (by omega)
  have p1 := R3.out.below HB5.out (by omega)
  have x0 := p0.cell 0
  have x1 := p1.cell 0
  have f0 := p0.frozen 0
  have f1 := p1.frozen 0
  have l0 := p0.lt
  have l1 := p1.lt
  simp at x0 x1
  clear p0 p1
  have HEnd : Hid (Below w.heap.size w ((w5.setCell ⟨w.heap.size, 0, none⟩ (.int .i64 0)).setCell ⟨w.heap.size + 1, 0, none⟩ (.int .i64 0))) := Lib.hid (((HBA.out.trans (HB5.out.mono (by omega))).setCell (p := ⟨w.heap.size, 0, none⟩) (Nat.le_refl _) _).setCell (p := ⟨w.heap.size + 1, 0, none⟩) (by simp) _)
  go_wp2
  refine leaves_cons (f := 59) (args := #[.pointer (some ⟨w.heap.size, 0, none⟩), .pointer (some ⟨w.heap.size + 1, 0, none⟩)]) (by simp) (by simp [go_sem]) ?_
  refine (cCatch_idle _ _ _).mono ?_
  rintro e u' w'' ⟨rfl, rfl, rfl⟩
  simp [Leaves, settle, results, Tryz.results34, go_sem, x0, x1]
  exact HEnd.out
end TreeD
end Go.Proofs.YtmdkocegnbcgmaaGreatDoor
namespace Go.Proofs.YtmdkocegnbcgmaaGreatDoor
open Go.RowKit ObjM
namespace TreeD

end TreeD
end Go.Proofs.YtmdkocegnbcgmaaGreatDoor
