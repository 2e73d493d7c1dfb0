/- The program of nothing that each law begins with. -/
import Derived.Test.YtakdmlaecidjaaaGreatDoorTree9
namespace Go.Proofs.YtakdmlaecidjaaaGreatDoor
open Go.RowKit ObjM
namespace TreeD

set_option maxRecDepth 100000 in
set_option maxHeartbeats 8000000 in
theorem awake_any (w : World) (hT : Tb w) :
    Calls Tryz.prog 6 #[] w fun e w' => e = .returned (.bool true) ∧ Below w.heap.size w w' := by
  have r2 := Has.new w 3 [.int .i64 0]
  have hA1 : Below w.heap.size w (w.alloc (.cells #[.int .i64 0] 3)) := (Below.refl _ w).alloc (Nat.le_refl _) _
  have r3 := Has.new (w.alloc (.cells #[.int .i64 0] 3)) 35 [.int .i64 3, .string ⟨#[]⟩, .slice none 0 0, .int .i64 0, .int .i64 1, .string ⟨#[]⟩, .slice (some ⟨w.heap.size, 0, none⟩) 1 1, .int .i64 0]
  have hA2 : Below (w.heap.size + 1) (w.alloc (.cells #[.int .i64 0] 3)) ((w.alloc (.cells #[.int .i64 0] 3)).alloc (.cells #[.int .i64 3, .string ⟨#[]⟩, .slice none 0 0, .int .i64 0, .int .i64 1, .string ⟨#[]⟩, .slice (some ⟨w.heap.size, 0, none⟩) 1 1, .int .i64 0] 35)) := (Below.refl _ _).alloc (by simp) _
  have r2b := r2.below hA2 (by omega)
  have hBA : Below w.heap.size w ((w.alloc (.cells #[.int .i64 0] 3)).alloc (.cells #[.int .i64 3, .string ⟨#[]⟩, .slice none 0 0, .int .i64 0, .int .i64 1, .string ⟨#[]⟩, .slice (some ⟨w.heap.size, 0, none⟩) 1 1, .int .i64 0] 35)) := hA1.trans (hA2.mono (by omega))
  simp only [World.size_alloc] at r3
  have HT := Lib.hid hT
  have HBld := fun (W : World) => Lib.hid (builtin_any ⟨#[114, 101, 97, 100]⟩ W)
  have HBlx := fun (W : World) => Lib.hid (builtin_any ⟨#[120]⟩ W)
  have b1 : builtinV ⟨#[114, 101, 97, 100]⟩ = 1 := by decide
  have b2 : builtinV ⟨#[120]⟩ = -1 := by decide
  rw [b1] at HBld
  rw [b2] at HBlx
  clear r2 hA1 hA2 hT b1 b2
  go_enter Tryz.func6, Tryz.ntmps6
  go_wp2_with fail
  change Calls _ _ _ (World.alloc (World.alloc w _) _) _
  generalize World.alloc (World.alloc w (.cells #[.int .i64 0] 3)) _ = w1 at r2b r3 hBA ⊢
  have HC := Lib.hid (check_ok (w.heap.size + 1) w.heap.size w.heap.size w w1 (fun W h => HT.out.below (Nat.le_refl _) h) hBA.size hBA r3 r2b)
  have HBA := Lib.hid hBA
  have HG := Lib.hid r3
  have HQ := Lib.hid r2b
  clear hBA r3 r2b
  refine (HC.out).mono ?_
  rintro e w2 ⟨rfl, hb2⟩
  have HB2 := Lib.hid (HBA.out.trans (hb2.mono HBA.out.size))
  have hg := HG.out.below hb2 HG.out.lt
  have hq := HQ.out.below hb2 HQ.out.lt
  have HDp := Lib.hid (deep_any exL _ w2 (ex_at hg hq) ex_ok (by decide))
  have HG2 := Lib.hid hg
  have HQ2 := Lib.hid hq
  clear hb2 hg hq HG HQ HC
  rw [ex_deep] at HDp
  go_wp2_with fail
  refine (HDp.out).mono ?_
  rintro e w3 ⟨rfl, hb3⟩
  have HB3 := Lib.hid (HB2.out.trans (hb3.mono HB2.out.size))
  have hn := ex_at (HG2.out.below hb3 HG2.out.lt) (HQ2.out.below hb3 HQ2.out.lt)
  have HSm := Lib.hid (same_any exL exL _ _ w3 hn hn ex_ok ex_ok (by decide) (by decide))
  rw [sameV_self] at HSm
  clear hb3 hn HDp
  go_wp2_with fail
  refine (HSm.out).mono ?_
  rintro e w4 ⟨rfl, hb4⟩
  have HB4 := Lib.hid (HB3.out.trans (hb4.mono HB3.out.size))
  clear hb4
  go_wp2_with fail
  refine ((HBld _).out).mono ?_
  rintro e w5 ⟨rfl, hw⟩
  subst hw
  go_wp2_with fail
  refine ((HBlx _).out).mono ?_
  rintro e w5 ⟨rfl, hw⟩
  subst hw
  go_wp2
  go_ret
  exact ⟨rfl, HB4.out⟩
end TreeD
end Go.Proofs.YtakdmlaecidjaaaGreatDoor
