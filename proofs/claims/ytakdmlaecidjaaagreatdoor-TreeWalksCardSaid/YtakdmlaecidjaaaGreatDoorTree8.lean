/- The example: its nodes, one by one. -/
import Derived.Test.YtakdmlaecidjaaaGreatDoorTree7
namespace Go.Proofs.YtakdmlaecidjaaaGreatDoor
open Go.RowKit ObjM
namespace TreeD

def NodeDid (w0 : World) (B C G Q D : Nat) (b0 b1 : Bool) (e : Ending) (w' : World) : Prop :=
  e = .returned (.tuple #[]) ∧ Below B w0 w' ∧ Ex w' C G Q D ∧ Has w' D 4 [.bool b0, .bool b1]
set_option maxRecDepth 100000 in
set_option maxHeartbeats 8000000 in
theorem node0_ok (C G Q D B : Nat) (b0 b1 : Bool) (w0 w : World) (hT : ∀ W, Below B w0 W → Tb W) (hBw : B ≤ w.heap.size) (hb0 : Below B w0 w) (hE : Ex w C G Q D) (hD : Has w D 4 [.bool b0, .bool b1]) :
    Calls Tryz.prog 24 #[.pointer (some ⟨C, 0, none⟩), .int .i64 0] w (NodeDid w0 B C G Q D b0 b1) := by
  have HM := fun W => Lib.hid (must_ok 0 W)
  have HK := fun W (h : Tb W) => Lib.hid (kids0_ok C W h)
  have HX := fun W => Lib.hid (text0_ok W)
  have HR := fun W => Lib.hid (rest0_ok C W)
  have HT := Lib.hid hT
  have HE := Lib.hid (fun (W : World) (h : Below w.heap.size w W) => hE.below (Nat.le_refl _) h)
  have HD := Lib.hid (fun (W : World) (h : Below w.heap.size w W) => hD.below h hD.lt)
  have HB := Lib.hid hb0
  have e0 := hE.c.cell 0
  have el := hE.c.lt
  have g0 := hE.g.cell 0
  have g1 := hE.g.cell 1
  have g2 := hE.g.cell 2
  have g3 := hE.g.cell 3
  have gl := hE.g.lt
  simp at e0 g0 g1 g2 g3
  have hN := Has.new w 35 [.int .i64 3, .string ⟨#[]⟩, .slice none 0 0, .int .i64 0]
  have HB1 := Lib.hid ((Below.refl w.heap.size w).alloc (Nat.le_refl _) (.cells #[.int .i64 3, .string ⟨#[]⟩, .slice none 0 0, .int .i64 0] 35))
  have HN := Lib.hid hN
  clear hE hD hb0 hT hN
  simp only [N0] at HK HX HR
  go_enter Tryz.func24, Tryz.ntmps24
  go_wp2_with fail
  refine ((HM _).out).mono ?_
  rintro e w1 ⟨rfl, hw⟩
  subst hw
  go_wp2
  refine wp_loop_rounds 1 ?_
  rw [rounds_succ]
  go_wp2_with fail
  refine ((HK _ (HT.out _ (HB.out.trans (HB1.out.mono hBw)))).out).mono ?_
  rintro e w2 ⟨rfl, hb⟩
  have hN2 := HN.out.below hb HN.out.lt
  have HB2 := Lib.hid (HB1.out.trans (hb.mono HB1.out.size))
  have n0 := hN2.cell 0
  have n1 := hN2.cell 1
  have n2 := hN2.cell 2
  have n3 := hN2.cell 3
  have nl := hN2.lt
  simp at n0 n1 n2 n3
  have HN2 := Lib.hid hN2
  clear hb hN2
  go_wp2_with fail
  refine ((HM _).out).mono ?_
  rintro e w3 ⟨rfl, hw⟩
  subst hw
  go_wp2_with fail
  refine ((HX _).out).mono ?_
  rintro e w3 ⟨rfl, hb⟩
  have hN3 := HN2.out.below hb HN2.out.lt
  have HB3 := Lib.hid (HB2.out.trans (hb.mono HB2.out.size))
  clear hb n0 n1 n2 n3 nl
  have n0 := hN3.cell 0
  have n1 := hN3.cell 1
  have n2 := hN3.cell 2
  have n3 := hN3.cell 3
  have nl := hN3.lt
  simp at n0 n1 n2 n3
  clear hN3
  go_wp2_with fail
  refine ((HM _).out).mono ?_
  rintro e w4 ⟨rfl, hw⟩
  subst hw
  go_wp2_with fail
  refine ((HR _).out).mono ?_
  rintro e w4 ⟨rfl, hb⟩
  have HB4 := Lib.hid (HB3.out.trans (hb.mono HB3.out.size))
  clear hb
  go_wp2_with fail
  refine ((HM _).out).mono ?_
  rintro e w5 ⟨rfl, hw⟩
  subst hw
  go_wp2
  go_end0
  exact ⟨rfl, HB.out.trans (HB4.out.mono hBw), HE.out _ HB4.out, HD.out _ HB4.out⟩
set_option maxRecDepth 100000 in
set_option maxHeartbeats 8000000 in
theorem node1_ok (C G Q D B : Nat) (b1 : Bool) (w0 w : World) (hT : ∀ W, Below B w0 W → Tb W) (hBw : B ≤ w.heap.size) (hBD : B ≤ D) (hb0 : Below B w0 w) (hE : Ex w C G Q D) (hD : Has w D 4 [.bool false, .bool b1]) :
    Calls Tryz.prog 24 #[.pointer (some ⟨C, 0, none⟩), .int .i64 1] w (NodeDid w0 B C G Q D true b1) := by
  have HM := fun W => Lib.hid (must_ok 1 W)
  have HK := fun W (h : Tb W) (hE : Ex W C G Q D) => Lib.hid (kids1_ok C G Q D W h hE)
  have HX := fun W => Lib.hid (text1_ok Q W)
  have HR := fun W => Lib.hid (rest1_ok C Q W)
  have HT := Lib.hid hT
  have HB := Lib.hid hb0
  have nC : D ≠ C := hD.ne hE.c (by decide +kernel)
  have nG : D ≠ G := hD.ne hE.g (by decide +kernel)
  have nQ : D ≠ Q := hD.ne hE.q (by decide +kernel)
  have e0 := hE.c.cell 0
  have e1 := hE.c.cell 1
  have el := hE.c.lt
  have g4 := hE.g.cell 4
  have g5 := hE.g.cell 5
  have g6 := hE.g.cell 6
  have g7 := hE.g.cell 7
  have gl := hE.g.lt
  have q0 := hE.q.cell 0
  have ql := hE.q.lt
  have d0 := hD.cell 0
  have df := hD.frozen 0
  have dl := hD.lt
  simp at e0 e1 g4 g5 g6 g7 q0 d0
  have hDA : Has (w.setCell ⟨D, 0, none⟩ (.bool true)) D 4 [.bool true, .bool b1] := hD.set 0 (.bool true)
  have hEA : Ex (w.setCell ⟨D, 0, none⟩ (.bool true)) C G Q D := ⟨hE.c.keeps (Keeps.set _ D 0 _) (by simpa using nC.symm), hE.g.keeps (Keeps.set _ D 0 _) (by simpa using nG.symm), hE.q.keeps (Keeps.set _ D 0 _) (by simpa using nQ.symm)⟩
  have hBA : Below B w0 (w.setCell ⟨D, 0, none⟩ (.bool true)) := hb0.setCell (p := ⟨D, 0, none⟩) hBD _
  have hss : (w.setCell ⟨D, 0, none⟩ (.bool true)).heap.size = w.heap.size := by simp
  have hNs := Has.new (w.setCell ⟨D, 0, none⟩ (.bool true)) 35 [.int .i64 1, .string ⟨#[]⟩, .slice (some ⟨Q, 0, none⟩) 1 1, .int .i64 0]
  rw [hss] at hNs
  have hA : Below (w.setCell ⟨D, 0, none⟩ (.bool true)).heap.size (w.setCell ⟨D, 0, none⟩ (.bool true)) ((w.setCell ⟨D, 0, none⟩ (.bool true)).alloc (.cells #[.int .i64 1, .string ⟨#[]⟩, .slice (some ⟨Q, 0, none⟩) 1 1, .int .i64 0] 35)) := (Below.refl _ _).alloc (Nat.le_refl _) _
  have HBs : Hid (Below B w0 ((w.setCell ⟨D, 0, none⟩ (.bool true)).alloc (.cells #[.int .i64 1, .string ⟨#[]⟩, .slice (some ⟨Q, 0, none⟩) 1 1, .int .i64 0] 35))) := Lib.hid (hBA.trans (hA.mono (by rw [hss]; exact hBw)))
  have HEs : Hid (Ex ((w.setCell ⟨D, 0, none⟩ (.bool true)).alloc (.cells #[.int .i64 1, .string ⟨#[]⟩, .slice (some ⟨Q, 0, none⟩) 1 1, .int .i64 0] 35)) C G Q D) := Lib.hid (hEA.below (Nat.le_refl _) hA)
  have HDs : Hid (Has ((w.setCell ⟨D, 0, none⟩ (.bool true)).alloc (.cells #[.int .i64 1, .string ⟨#[]⟩, .slice (some ⟨Q, 0, none⟩) 1 1, .int .i64 0] 35)) D 4 [.bool true, .bool b1]) := Lib.hid (hDA.below hA hDA.lt)
  have hsz : B ≤ ((w.setCell ⟨D, 0, none⟩ (.bool true)).alloc (.cells #[.int .i64 1, .string ⟨#[]⟩, .slice (some ⟨Q, 0, none⟩) 1 1, .int .i64 0] 35)).heap.size := by simp; omega
  clear hE hD hb0 hT hA hEA hDA hBA hss nC nG nQ
  simp only [N1] at HK HX HR
  go_enter Tryz.func24, Tryz.ntmps24
  go_wp2_with fail
  refine ((HM _).out).mono ?_
  rintro e w1 ⟨rfl, hw⟩
  subst hw
  go_wp2
  refine wp_loop_rounds 2 ?_
  rw [rounds_succ]
  go_wp2_with fail
  refine ((HM _).out).mono ?_
  rintro e w1 ⟨rfl, hw⟩
  subst hw
  go_wp2
  change Code.rounds _ _ _ _ _ (World.alloc _ _)
  generalize World.alloc (w.setCell ⟨D, 0, none⟩ (.bool true)) (.cells #[.int .i64 1, .string ⟨#[]⟩, .slice (some ⟨Q, 0, none⟩) 1 1, .int .i64 0] 35) = w2 at HBs HEs HDs hNs hsz ⊢
  generalize w.heap.size = N at hNs ⊢
  clear e0 e1 el g4 g5 g6 g7 gl q0 ql d0 df dl
  have n0 := hNs.cell 0
  have n1 := hNs.cell 1
  have n2 := hNs.cell 2
  have n3 := hNs.cell 3
  have nl := hNs.lt
  simp at n0 n1 n2 n3
  have HN := Lib.hid hNs
  clear hNs
  rw [rounds_succ]
  go_wp2_with fail
  refine ((HK _ (HT.out _ HBs.out) HEs.out).out).mono ?_
  rintro e w3 ⟨rfl, hb⟩
  have HN3 := Lib.hid (HN.out.below hb HN.out.lt)
  have HB3 := Lib.hid hb
  clear hb n0 n1 n2 n3 nl
  have n0 := HN3.out.cell 0
  have n1 := HN3.out.cell 1
  have n2 := HN3.out.cell 2
  have n3 := HN3.out.cell 3
  have nl := HN3.out.lt
  simp at n0 n1 n2 n3
  go_wp2_with fail
  refine ((HM _).out).mono ?_
  rintro e w4 ⟨rfl, hw⟩
  subst hw
  go_wp2_with fail
  refine ((HX _).out).mono ?_
  rintro e w4 ⟨rfl, hb⟩
  have HN4 := Lib.hid (HN3.out.below hb HN3.out.lt)
  have HB4 := Lib.hid (HB3.out.trans (hb.mono HB3.out.size))
  clear hb n0 n1 n2 n3 nl
  have n0 := HN4.out.cell 0
  have n1 := HN4.out.cell 1
  have n2 := HN4.out.cell 2
  have n3 := HN4.out.cell 3
  have nl := HN4.out.lt
  simp at n0 n1 n2 n3
  go_wp2_with fail
  refine ((HM _).out).mono ?_
  rintro e w5 ⟨rfl, hw⟩
  subst hw
  go_wp2_with fail
  refine ((HR _).out).mono ?_
  rintro e w5 ⟨rfl, hb⟩
  have HB5 := Lib.hid (HB4.out.trans (hb.mono HB4.out.size))
  clear hb
  go_wp2_with fail
  refine ((HM _).out).mono ?_
  rintro e w6 ⟨rfl, hw⟩
  subst hw
  go_wp2
  go_end0
  exact ⟨rfl, HBs.out.trans (HB5.out.mono hsz), HEs.out.below (Nat.le_refl _) HB5.out, HDs.out.below HB5.out HDs.out.lt⟩
set_option maxRecDepth 100000 in
set_option maxHeartbeats 4000000 in
theorem whole_ok (C G Q D : Nat) (b1 : Bool) (w : World) (hE : Ex w C G Q D) (hD : Has w D 4 [.bool true, .bool b1]) :
    Calls Tryz.prog 25 #[.pointer (some ⟨C, 0, none⟩)] w fun e w' => e = .returned (.tuple #[]) ∧ w = w' := by
  have HM := fun n W => Lib.hid (must_ok n W)
  have e0 := hE.c.cell 0
  have e1 := hE.c.cell 1
  have el := hE.c.lt
  have g0 := hE.g.cell 0
  have g4 := hE.g.cell 4
  have gl := hE.g.lt
  have d0 := hD.cell 0
  have dl := hD.lt
  simp at e0 e1 g0 g4 d0
  clear hE hD
  go_enter Tryz.func25, Tryz.ntmps25
  go_wp2_with fail
  refine ((HM 0 _).out).mono ?_
  rintro e w1 ⟨rfl, hw⟩
  subst hw
  go_wp2_with fail
  refine ((HM 1 _).out).mono ?_
  rintro e w1 ⟨rfl, hw⟩
  subst hw
  go_wp2
  refine wp_loop_rounds 2 ?_
  rw [rounds_succ]
  go_wp2_with fail
  refine ((HM 1 _).out).mono ?_
  rintro e w1 ⟨rfl, hw⟩
  subst hw
  go_wp2
  rw [rounds_succ]
  go_wp2
  go_end0
  exact ⟨rfl, rfl⟩
end TreeD
end Go.Proofs.YtakdmlaecidjaaaGreatDoor
