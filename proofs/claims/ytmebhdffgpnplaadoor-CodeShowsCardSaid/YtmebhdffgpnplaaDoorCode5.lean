/- Chapter 16's example. (Written by mk_code5.py.) -/
import Derived.Test.YtmebhdffgpnplaaDoorCode4
namespace Go.Proofs.YtmebhdffgpnplaaDoor
open Go.RowKit ObjM
namespace CodeD
open InstrM InstrD TyD ValD LexD

theorem six_blocks (w : World) (c0 c1 c2 c3 c4 c5 : List Value) (t0 t1 t2 t3 t4 t5 : TypeId) (W : World) (hW : W = (((((w.alloc (.cells c0.toArray t0)).alloc (.cells c1.toArray t1)).alloc (.cells c2.toArray t2)).alloc (.cells c3.toArray t3)).alloc (.cells c4.toArray t4)).alloc (.cells c5.toArray t5)) :
    Has W w.heap.size t0 c0 ∧ Has W (w.heap.size + 1) t1 c1 ∧ Has W (w.heap.size + 1 + 1) t2 c2 ∧ Has W (w.heap.size + 1 + 1 + 1) t3 c3 ∧ Has W (w.heap.size + 1 + 1 + 1 + 1) t4 c4 ∧ Has W (w.heap.size + 1 + 1 + 1 + 1 + 1) t5 c5 ∧ Below w.heap.size w W := by
  obtain ⟨V, hV⟩ : ∃ V, (((w.alloc (.cells c0.toArray t0)).alloc (.cells c1.toArray t1)).alloc (.cells c2.toArray t2)).alloc (.cells c3.toArray t3) = V := ⟨_, rfl⟩
  obtain ⟨h0, h1, h2, h3, hB, hs⟩ := TyD.four_blocks w c0 c1 c2 c3 t0 t1 t2 t3 V hV.symm
  rw [hV] at hW
  subst hW
  have k1 : Keeps [] V (V.alloc (.cells c4.toArray t4)) := Keeps.alloc [] V _
  have k2 : Keeps [] (V.alloc (.cells c4.toArray t4)) ((V.alloc (.cells c4.toArray t4)).alloc (.cells c5.toArray t5)) := Keeps.alloc [] _ _
  have k := k1.trans k2 (by simp)
  have h4 := Has.new V t4 c4
  have h5 := Has.new (V.alloc (.cells c4.toArray t4)) t5 c5
  rw [World.size_alloc] at h5
  rw [hs] at h4 h5
  exact ⟨h0.keeps k (by simp), h1.keeps k (by simp), h2.keeps k (by simp), h3.keeps k (by simp), h4.keeps k2 (by simp), h5, hB.trans (k.toBelow _ hB.size (by simp))⟩
set_option maxRecDepth 100000 in
set_option maxHeartbeats 8000000 in
theorem awake_any (w : World) (hT : Tabs w) (hL : WTab w) : Calls Tryd.prog 5 #[] w fun e w' => e = .returned (.bool true) ∧ Below w.heap.size w w' := by
  obtain ⟨b0, b1, b2, b3, b4, b5, hB⟩ := six_blocks w [.int .i64 0, .slice none 0 0, .slice none 0 0] [.int .u32 1, .int .u32 42] [.int .i64 0, .int .i64 0, .string ⟨#[]⟩, .int .u64 0] [.int .i64 0, .int .i64 0] [.slice (some ⟨w.heap.size, 0, none⟩) 1 1, .int .i64 1, .slice (some ⟨w.heap.size + 1, 0, none⟩) 2 2, .slice (some ⟨w.heap.size + 1 + 1, 0, none⟩) 1 1, .slice none 0 0, .slice (some ⟨w.heap.size + 1 + 1 + 1, 0, none⟩) 2 2] [.slice (some ⟨w.heap.size, 0, none⟩) 1 1, .int .i64 1, .slice (some ⟨w.heap.size + 1, 0, none⟩) 2 2, .slice (some ⟨w.heap.size + 1 + 1, 0, none⟩) 1 1, .slice none 0 0, .slice (some ⟨w.heap.size + 1 + 1 + 1, 0, none⟩) 2 2] 43 44 46 3 38 38 _ rfl
  obtain ⟨W6, hW6⟩ : ∃ W6, ((((((w.alloc (.cells #[.int .i64 0, .slice none 0 0, .slice none 0 0] 43)).alloc (.cells #[.int .u32 1, .int .u32 42] 44)).alloc (.cells #[.int .i64 0, .int .i64 0, .string ⟨#[]⟩, .int .u64 0] 46)).alloc (.cells #[.int .i64 0, .int .i64 0] 3)).alloc (.cells #[.slice (some ⟨w.heap.size, 0, none⟩) 1 1, .int .i64 1, .slice (some ⟨w.heap.size + 1, 0, none⟩) 2 2, .slice (some ⟨w.heap.size + 1 + 1, 0, none⟩) 1 1, .slice none 0 0, .slice (some ⟨w.heap.size + 1 + 1 + 1, 0, none⟩) 2 2] 38)).alloc (.cells #[.slice (some ⟨w.heap.size, 0, none⟩) 1 1, .int .i64 1, .slice (some ⟨w.heap.size + 1, 0, none⟩) 2 2, .slice (some ⟨w.heap.size + 1 + 1, 0, none⟩) 1 1, .slice none 0 0, .slice (some ⟨w.heap.size + 1 + 1 + 1, 0, none⟩) 2 2] 38)) = W6 := ⟨_, rfl⟩
  rw [hW6] at b0 b1 b2 b3 b4 b5 hB
  have HC := Lib.hid (check_1 w.heap.size (w.heap.size + 1) (w.heap.size + 1 + 1) (w.heap.size + 1 + 1 + 1) (w.heap.size + 1 + 1 + 1 + 1 + 1) W6 (hT.below hB) (hL.below hB) ⟨b0, b1, b2, b3⟩ b5)
  have HW6 := Lib.hid hW6
  have H6 := Lib.hid (⟨b0, b2, b3, b4, hB⟩ : Has W6 w.heap.size _ _ ∧ Has W6 (w.heap.size + 1 + 1) _ _ ∧ Has W6 (w.heap.size + 1 + 1 + 1) _ _ ∧ Has W6 (w.heap.size + 1 + 1 + 1 + 1) _ _ ∧ Below w.heap.size w W6)
  have HTb := Lib.hid hT
  have HLb := Lib.hid hL
  clear b0 b1 b2 b3 b4 b5 hB hW6 hT hL
  go_enter Tryd.func5, Tryd.ntmps5
  go_wp2_with fail
  rw [HW6.out]
  refine HC.out.mono ?_
  rintro e w2 ⟨rfl, hb⟩
  have p0 := H6.out.1.below hb H6.out.1.lt
  have p2 := H6.out.2.1.below hb H6.out.2.1.lt
  have p3 := H6.out.2.2.1.below hb H6.out.2.2.1.lt
  have p4 := H6.out.2.2.2.1.below hb H6.out.2.2.2.1.lt
  have hB2 := H6.out.2.2.2.2.trans (hb.mono H6.out.2.2.2.2.size)
  have k3 := Keeps.set w2 (w.heap.size + 1 + 1 + 1 + 1) 2 (.slice (some ⟨w2.heap.size, 0, none⟩) 2 2)
  obtain ⟨W3, hW3⟩ : ∃ W3, w2.setCell ⟨w.heap.size + 1 + 1 + 1 + 1, 2, none⟩ (.slice (some ⟨w2.heap.size, 0, none⟩) 2 2) = W3 := ⟨_, rfl⟩
  rw [hW3] at k3
  have s3 : W3.heap.size = w2.heap.size := by rw [← hW3]; simp [World.setCell]
  have k4 : Keeps [] W3 (W3.alloc (.cells #[.int .u32 35, .int .u32 42] 44)) := Keeps.alloc [] W3 _
  have q1 := Has.new W3 44 [.int .u32 35, .int .u32 42]
  have k5 : Keeps [] (W3.alloc (.cells #[.int .u32 35, .int .u32 42] 44)) ((W3.alloc (.cells #[.int .u32 35, .int .u32 42] 44)).alloc (.cells #[.slice (some ⟨w.heap.size, 0, none⟩) 1 1, .int .i64 1, .slice (some ⟨w2.heap.size, 0, none⟩) 2 2, .slice (some ⟨w.heap.size + 1 + 1, 0, none⟩) 1 1, .slice none 0 0, .slice (some ⟨w.heap.size + 1 + 1 + 1, 0, none⟩) 2 2] 38)) := Keeps.alloc [] _ _
  have q5 := Has.new (W3.alloc (.cells #[.int .u32 35, .int .u32 42] 44)) 38 [.slice (some ⟨w.heap.size, 0, none⟩) 1 1, .int .i64 1, .slice (some ⟨w2.heap.size, 0, none⟩) 2 2, .slice (some ⟨w.heap.size + 1 + 1, 0, none⟩) 1 1, .slice none 0 0, .slice (some ⟨w.heap.size + 1 + 1 + 1, 0, none⟩) 2 2]
  rw [World.size_alloc, s3] at q5
  rw [s3] at q1
  have k45 := (k3.trans k4 (by simp)).trans k5 (by simp)
  have l4 := p4.lt
  have hB5 : Below w.heap.size w ((W3.alloc (.cells #[.int .u32 35, .int .u32 42] 44)).alloc (.cells #[.slice (some ⟨w.heap.size, 0, none⟩) 1 1, .int .i64 1, .slice (some ⟨w2.heap.size, 0, none⟩) 2 2, .slice (some ⟨w.heap.size + 1 + 1, 0, none⟩) 1 1, .slice none 0 0, .slice (some ⟨w.heap.size + 1 + 1 + 1, 0, none⟩) 2 2] 38)) := hB2.trans (k45.toBelow _ hB2.size (by simp; omega))
  have HC2 := Lib.hid (check_35 w.heap.size w2.heap.size (w.heap.size + 1 + 1) (w.heap.size + 1 + 1 + 1) (w2.heap.size + 1) _ (HTb.out.below hB5) (HLb.out.below hB5) ⟨p0.keeps k45 (by simp; omega), q1.keeps k5 (by simp), p2.keeps k45 (by simp), p3.keeps k45 (by simp)⟩ q5)
  have HB5 := Lib.hid hB5
  have z0 := p4.cell 0
  have z1 := p4.cell 1
  have z2 := p4.cell 2
  have z3 := p4.cell 3
  have z4 := p4.cell 4
  have z5 := p4.cell 5
  have f2 := p4.frozen 2
  simp only [List.getElem?_cons_zero, List.getElem?_cons_succ] at z0 z1 z2 z3 z4 z5
  rw [← hW3] at HC2 HB5
  clear p0 p2 p3 p4 hB2 hb q1 q5 k3 k4 k5 k45 hB5 s3 hW3 H6 HC HW6
  go_wp2_with fail
  refine HC2.out.mono ?_
  rintro e w7 ⟨rfl, hb7⟩
  have HB7 := Lib.hid (HB5.out.trans (hb7.mono HB5.out.size))
  clear hb7 HC2 HB5 z0 z1 z2 z3 z4 z5 f2 l4
  go_wp2
  go_ret
  exact ⟨rfl, HB7.out⟩
end CodeD
end Go.Proofs.YtmebhdffgpnplaaDoor
