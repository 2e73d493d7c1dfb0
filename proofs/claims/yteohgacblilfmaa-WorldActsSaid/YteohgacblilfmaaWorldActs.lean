/- The walk of WorldActs. -/
import Derived.Test.YteohgacblilfmaaWorldBothV
namespace Go.Proofs.Yteohgacblilfmaa
open Go.RowKit ObjM Shell Go.ChangeShapes Go.WideShapes
namespace WorldD
open LabelM LabelD TraceD

set_option maxRecDepth 100000 in
set_option maxHeartbeats 4000000 in
theorem worldActs_any (m0 m1 m2 m3 m4 m5 m6 m7 : Nat) (hms : ∀ j, [m0, m1, m2, m3, m4, m5, m6, m7].getD j 0 < M64) (a : Nat → Option Addr) (z : Nat → List Int) (q : Nat → Nat) (hzl : ∀ j, (z j).length ≤ 17592186044416) (la : List ActM) (hla : la.length ≤ 2199023255552) (hpl : ∀ x ∈ la, x.pc < M64 ∧ x.lab < M64) (v : Value) (w : World)
    (hz : ∀ j, j < 8 → IntsAt w .i64 (.slice (a j) (z j).length (q j)) (z j)) (hv : ActsAt w v la) :
    Calls Try.prog 3 #[.agg #[.int .u64 (m0 : Int), .int .u64 (m1 : Int), .int .u64 (m2 : Int), .int .u64 (m3 : Int), .int .u64 (m4 : Int), .int .u64 (m5 : Int), .int .u64 (m6 : Int), .int .u64 (m7 : Int)], .agg (inV a z q).toArray, v] w fun e w' => e = .returned (.bool true) ∧ Below w.heap.size w w' := by
  have HV := Lib.hid (fun (W : World) (hb : Below w.heap.size w W) => hv.below hb)
  have HFw := Lib.hid (fun (W : World) (hb : Below w.heap.size w W) => few_any a z q la v W (hv.below hb))
  have HNw := Lib.hid (fun (W : World) (hb : Below w.heap.size w W) => new_any m0 m1 m2 m3 m4 m5 m6 m7 hms a z q hzl W (fun j hj => (hz j hj).below hb (Nat.le_refl _)))
  obtain ⟨av, cw, rfl⟩ := hv.shape
  have r0 := (Has.new w 24 [.int .u64 (m0 : Int), .int .u64 (m1 : Int), .int .u64 (m2 : Int), .int .u64 (m3 : Int), .int .u64 (m4 : Int), .int .u64 (m5 : Int), .int .u64 (m6 : Int), .int .u64 (m7 : Int)]).keepsT ((KeepsT.refl [] _).alloc (.cells (inV a z q).toArray 27)) (by simp)
  have r1 := Has.new (w.alloc (.cells #[.int .u64 (m0 : Int), .int .u64 (m1 : Int), .int .u64 (m2 : Int), .int .u64 (m3 : Int), .int .u64 (m4 : Int), .int .u64 (m5 : Int), .int .u64 (m6 : Int), .int .u64 (m7 : Int)] 24)) 27 (inV a z q)
  simp only [World.size_alloc] at r1
  have rB : Below w.heap.size w ((w.alloc (.cells #[.int .u64 (m0 : Int), .int .u64 (m1 : Int), .int .u64 (m2 : Int), .int .u64 (m3 : Int), .int .u64 (m4 : Int), .int .u64 (m5 : Int), .int .u64 (m6 : Int), .int .u64 (m7 : Int)] 24)).alloc (.cells (inV a z q).toArray 27)) := ((Below.refl _ w).alloc (Nat.le_refl _) _).alloc (by simp) _
  have hil : (inV a z q).length = 8 := rfl
  obtain ⟨ia, hia⟩ : ∃ x, inV a z q = x := ⟨_, rfl⟩
  have HIA := Lib.hid hia
  have HZL := Lib.hid hzl
  have HMS := Lib.hid hms
  have HZ := Lib.hid (fun (W : World) (hb : Below w.heap.size w W) (j : Nat) (hj : j < 8) => (hz j hj).below hb (Nat.le_refl _))
  simp only [hia] at HFw HNw r0 r1 rB hil ⊢
  clear hia hz hv hzl
  have HA := fun W => Lib.hid (awake_any W)
  have HMC : Hid (∀ (j : Nat) (W' : World), j < 8 → Has W' w.heap.size 24 [.int .u64 (m0 : Int), .int .u64 (m1 : Int), .int .u64 (m2 : Int), .int .u64 (m3 : Int), .int .u64 (m4 : Int), .int .u64 (m5 : Int), .int .u64 (m6 : Int), .int .u64 (m7 : Int)] → W'.cell? ⟨w.heap.size, j, none⟩ = some (.int .u64 (([m0, m1, m2, m3, m4, m5, m6, m7].getD j 0 : Nat) : Int))) := Lib.hid (by
    intro j W' hj h
    rw [h.cell j]
    rcases lt8 hj with rfl | rfl | rfl | rfl | rfl | rfl | rfl | rfl <;> rfl)
  go_enter Try.func3, Try.ntmps3
  go_wp2_with fail
  with_reducible refine ((HA _).out).mono ?_
  rintro e w1 ⟨rfl, hb1⟩
  have r0' := r0.below hb1 r0.lt
  have r1' := r1.below hb1 r1.lt
  have B1 := Lib.hid (rB.trans (hb1.mono rB.size))
  clear r0 r1 rB hb1 HA
  have hldI := Lib.hid (run_load_all (P := Try.prog) (T := 27) (i0 := 0) (bs := []) (ds := []) 8 (by kernel_rfl) (by kernel_rfl) (by simpa using r1') rfl hil)
  have R0 := Lib.hid r0'
  have R1 := Lib.hid r1'
  clear r0' r1'
  go_wp2_with (refine wpList_load_run rfl (.tmp 4) 27 rfl _ _ rfl hldI.out ?_)
  refine (HFw.out _ B1.out).mono ?_
  rintro e w2 ⟨b, rfl, hb2⟩
  have B2 := Lib.hid (B1.out.trans (hb2.mono B1.out.size))
  cases b
  · clear hb2
    go_wp2
    go_ret
    exact ⟨rfl, B2.out⟩
  · have r0 := R0.out.below hb2 R0.out.lt
    have r1 := R1.out.below hb2 R1.out.lt
    clear hldI R0 R1 hb2
    have R0 := Lib.hid r0
    have R1 := Lib.hid r1
    have m0' := r0.cell 0
    have m1' := r0.cell 1
    have m2' := r0.cell 2
    have m3' := r0.cell 3
    have m4' := r0.cell 4
    have m5' := r0.cell 5
    have m6' := r0.cell 6
    have m7' := r0.cell 7
    simp at m0' m1' m2' m3' m4' m5' m6' m7'
    have i0' := r1.cell 0
    have i1' := r1.cell 1
    have i2' := r1.cell 2
    have i3' := r1.cell 3
    have i4' := r1.cell 4
    have i5' := r1.cell 5
    have i6' := r1.cell 6
    have i7' := r1.cell 7
    rw [← HIA.out] at i0' i1' i2' i3' i4' i5' i6' i7'
    simp [inV] at i0' i1' i2' i3' i4' i5' i6' i7'
    have hl0 := r0.lt
    have hl1 := r1.lt
    rw [← HIA.out] at HNw
    simp only [inV] at HNw
    clear r0 r1
    have HCells : Hid (∀ W', Below w2.heap.size w2 W' → W'.cell? ⟨w.heap.size, 0, none⟩ = some (.int .u64 (m0 : Int)) ∧ W'.cell? ⟨w.heap.size, 1, none⟩ = some (.int .u64 (m1 : Int)) ∧ W'.cell? ⟨w.heap.size, 2, none⟩ = some (.int .u64 (m2 : Int)) ∧ W'.cell? ⟨w.heap.size, 3, none⟩ = some (.int .u64 (m3 : Int)) ∧ W'.cell? ⟨w.heap.size, 4, none⟩ = some (.int .u64 (m4 : Int)) ∧ W'.cell? ⟨w.heap.size, 5, none⟩ = some (.int .u64 (m5 : Int)) ∧ W'.cell? ⟨w.heap.size, 6, none⟩ = some (.int .u64 (m6 : Int)) ∧ W'.cell? ⟨w.heap.size, 7, none⟩ = some (.int .u64 (m7 : Int)) ∧ W'.cell? ⟨w.heap.size + 1, 0, none⟩ = some (.slice (a 0) (z 0).length (q 0)) ∧ W'.cell? ⟨w.heap.size + 1, 1, none⟩ = some (.slice (a 1) (z 1).length (q 1)) ∧ W'.cell? ⟨w.heap.size + 1, 2, none⟩ = some (.slice (a 2) (z 2).length (q 2)) ∧ W'.cell? ⟨w.heap.size + 1, 3, none⟩ = some (.slice (a 3) (z 3).length (q 3)) ∧ W'.cell? ⟨w.heap.size + 1, 4, none⟩ = some (.slice (a 4) (z 4).length (q 4)) ∧ W'.cell? ⟨w.heap.size + 1, 5, none⟩ = some (.slice (a 5) (z 5).length (q 5)) ∧ W'.cell? ⟨w.heap.size + 1, 6, none⟩ = some (.slice (a 6) (z 6).length (q 6)) ∧ W'.cell? ⟨w.heap.size + 1, 7, none⟩ = some (.slice (a 7) (z 7).length (q 7))) := Lib.hid (fun W' hb => ⟨(hb.cell (p := ⟨w.heap.size, 0, none⟩) hl0).trans m0', (hb.cell (p := ⟨w.heap.size, 1, none⟩) hl0).trans m1', (hb.cell (p := ⟨w.heap.size, 2, none⟩) hl0).trans m2', (hb.cell (p := ⟨w.heap.size, 3, none⟩) hl0).trans m3', (hb.cell (p := ⟨w.heap.size, 4, none⟩) hl0).trans m4', (hb.cell (p := ⟨w.heap.size, 5, none⟩) hl0).trans m5', (hb.cell (p := ⟨w.heap.size, 6, none⟩) hl0).trans m6', (hb.cell (p := ⟨w.heap.size, 7, none⟩) hl0).trans m7', (hb.cell (p := ⟨w.heap.size + 1, 0, none⟩) hl1).trans i0', (hb.cell (p := ⟨w.heap.size + 1, 1, none⟩) hl1).trans i1', (hb.cell (p := ⟨w.heap.size + 1, 2, none⟩) hl1).trans i2', (hb.cell (p := ⟨w.heap.size + 1, 3, none⟩) hl1).trans i3', (hb.cell (p := ⟨w.heap.size + 1, 4, none⟩) hl1).trans i4', (hb.cell (p := ⟨w.heap.size + 1, 5, none⟩) hl1).trans i5', (hb.cell (p := ⟨w.heap.size + 1, 6, none⟩) hl1).trans i6', (hb.cell (p := ⟨w.heap.size + 1, 7, none⟩) hl1).trans i7'⟩)
    go_wp2
    go_region_held3 (fun W' => W'.cell? ⟨w.heap.size, 0, none⟩ = some (.int .u64 (m0 : Int)) ∧ W'.cell? ⟨w.heap.size, 1, none⟩ = some (.int .u64 (m1 : Int)) ∧ W'.cell? ⟨w.heap.size, 2, none⟩ = some (.int .u64 (m2 : Int)) ∧ W'.cell? ⟨w.heap.size, 3, none⟩ = some (.int .u64 (m3 : Int)) ∧ W'.cell? ⟨w.heap.size, 4, none⟩ = some (.int .u64 (m4 : Int)) ∧ W'.cell? ⟨w.heap.size, 5, none⟩ = some (.int .u64 (m5 : Int)) ∧ W'.cell? ⟨w.heap.size, 6, none⟩ = some (.int .u64 (m6 : Int)) ∧ W'.cell? ⟨w.heap.size, 7, none⟩ = some (.int .u64 (m7 : Int)) ∧ W'.cell? ⟨w.heap.size + 1, 0, none⟩ = some (.slice (a 0) (z 0).length (q 0)) ∧ W'.cell? ⟨w.heap.size + 1, 1, none⟩ = some (.slice (a 1) (z 1).length (q 1)) ∧ W'.cell? ⟨w.heap.size + 1, 2, none⟩ = some (.slice (a 2) (z 2).length (q 2)) ∧ W'.cell? ⟨w.heap.size + 1, 3, none⟩ = some (.slice (a 3) (z 3).length (q 3)) ∧ W'.cell? ⟨w.heap.size + 1, 4, none⟩ = some (.slice (a 4) (z 4).length (q 4)) ∧ W'.cell? ⟨w.heap.size + 1, 5, none⟩ = some (.slice (a 5) (z 5).length (q 5)) ∧ W'.cell? ⟨w.heap.size + 1, 6, none⟩ = some (.slice (a 6) (z 6).length (q 6)) ∧ W'.cell? ⟨w.heap.size + 1, 7, none⟩ = some (.slice (a 7) (z 7).length (q 7)))
      (first | exact HCells.out _ (Below.refl _ _).drew | exact HCells.out _ ((Below.refl _ _).alloc (Nat.le_refl _) _).drew | exact HCells.out _ q3 | exact HCells.out _ (q3.alloc q3.size _))
      (first
        | (go_at_call 8
           refine (HNw.out _ (B2.out.drew)).mono ?_
           rintro e w3 ⟨G, l, rfl, hI, hl, hb3⟩
           have q3 : Below w2.heap.size w2 w3 := ((Below.refl _ _).drew).trans (hb3.mono (by simp))
           have hIB := hI.base (B' := w2.heap.size) (by simp))
        | (go_at_call 8
           refine (HNw.out _ ((B2.out.alloc B2.out.size _).drew)).mono ?_
           rintro e w3 ⟨G, l, rfl, hI, hl, hb3⟩
           have q3 : Below w2.heap.size w2 w3 := (((Below.refl _ _).alloc (Nat.le_refl _) _).drew).trans (hb3.mono (by simp))
           have hIB := hI.base (B' := w2.heap.size) (by simp)))
    all_goals
      have HMt : Hid (Mt l (fun j => [m0, m1, m2, m3, m4, m5, m6, m7].getD j 0) z (fun _ => 0)) := Lib.hid hl
      have hRok : ∀ c ∈ refL (fun j => [m0, m1, m2, m3, m4, m5, m6, m7].getD j 0) a z q (fun _ => 0), c.m < M64 ∧ c.n ≤ c.xs.length ∧ c.xs.length ≤ 17592186044416 := by
        intro c hc
        obtain ⟨j, hj⟩ := List.getElem?_of_mem hc
        have hj8 : j < 8 := (List.getElem?_eq_some_iff.1 hj).1
        rw [refL_at _ a z q _ hj8] at hj
        injection hj with hj
        subst hj
        exact ⟨HMS.out j, Nat.zero_le _, HZL.out j⟩
      go_wp2
      first
        | (have hbx := Has.new w3 37 (refCells (refL (fun j => [m0, m1, m2, m3, m4, m5, m6, m7].getD j 0) a z q (fun _ => 0)) (.slice none 0 0))
           obtain ⟨sv0, hWv⟩ := hIB.keeps ((KeepsT.refl [] w3).alloc (.cells (refCells (refL (fun j => [m0, m1, m2, m3, m4, m5, m6, m7].getD j 0) a z q (fun _ => 0)) (.slice none 0 0)).toArray 37)) (by simp) (by simp) (by simp)
           have HT : Hid (Two (w3.alloc (.cells (refCells (refL (fun j => [m0, m1, m2, m3, m4, m5, m6, m7].getD j 0) a z q (fun _ => 0)) (.slice none 0 0)).toArray 37)) w2.heap.size G w3.heap.size (fun j => [m0, m1, m2, m3, m4, m5, m6, m7].getD j 0) a z q (fun _ => 0) l []) := Lib.hid ⟨sv0, _, hWv, ⟨hbx, World.ownsRow_nil _ _ _ _, q3.size, rfl, hRok⟩, (fun g h _ hh => by cases hh), HMt.out⟩
           have BF := Lib.hid (B2.out.trans ((q3.alloc q3.size (.cells (refCells (refL (fun j => [m0, m1, m2, m3, m4, m5, m6, m7].getD j 0) a z q (fun _ => 0)) (.slice none 0 0)).toArray 37)).mono B2.out.size))
           have hBs : w2.heap.size ≤ (w3.alloc (.cells (refCells (refL (fun j => [m0, m1, m2, m3, m4, m5, m6, m7].getD j 0) a z q (fun _ => 0)) (.slice none 0 0)).toArray 37)).heap.size := by have := q3.size; simp; omega
           change Code.wp _ _ _ _ (World.alloc w3 (.cells (refCells (refL (fun j => [m0, m1, m2, m3, m4, m5, m6, m7].getD j 0) a z q (fun _ => 0)) (.slice none 0 0)).toArray 37))
           clear hbx hWv
           generalize World.alloc w3 _ = wf at HT BF hBs ⊢
           generalize w3.heap.size = Rb at HT ⊢)
        | (have hbx := ((Has.new w2 37 (refCells (refL (fun j => [m0, m1, m2, m3, m4, m5, m6, m7].getD j 0) a z q (fun _ => 0)) (.slice none 0 0))).drew).below hb3 (by simp)
           obtain ⟨sv0, hWv⟩ := hIB
           have BF := Lib.hid (B2.out.trans (q3.mono B2.out.size))
           have hBs : w2.heap.size ≤ w3.heap.size := q3.size
           obtain ⟨Rb, hRb⟩ : ∃ x, w2.heap.size = x := ⟨_, rfl⟩
           have HT : Hid (Two w3 w2.heap.size G Rb (fun j => [m0, m1, m2, m3, m4, m5, m6, m7].getD j 0) a z q (fun _ => 0) l []) := Lib.hid (by rw [← hRb]; exact ⟨sv0, _, hWv, ⟨hbx, World.ownsRow_nil _ _ _ _, Nat.le_refl _, rfl, hRok⟩, (fun g h _ hh => by cases hh), HMt.out⟩)
           rw [hRb]
           clear hbx hRb hWv)
      try clear hIB
      clear hI hb3 hl hRok q3 HMt hl0 hl1 m0' m1' m2' m3' m4' m5' m6' m7' i0' i1' i2' i3' i4' i5' i6' i7' HCells R0 R1 HNw HFw HMC
      obtain ⟨mm, hmm⟩ : ∃ x, (fun j => [m0, m1, m2, m3, m4, m5, m6, m7].getD j 0) = x := ⟨_, rfl⟩
      rw [hmm] at HT
      have HPL := Lib.hid hpl
      clear hpl hmm
      go_loopw [32] (fun i wr => ∃ (k : Nat) (n : Nat → Nat) (l : List Ch) (ev : List Ev), i = .int .i64 k ∧ k ≤ la.length ∧ ev.length ≤ k ∧ w2.heap.size ≤ wr.heap.size ∧ Hid (Two wr w2.heap.size G Rb mm a z q n l ev) ∧ Hid (Below w.heap.size w wr)) (fun i _ => la.length - (intOf i).toNat)
      case atStart => exact ⟨0, _, _, [], rfl, by omega, by simp, hBs, HT, BF⟩
      case round =>
        clear HT BF hBs
        obtain ⟨k, n, l, ev, rfl, hk, hev, hsz, HT4, B4⟩ := hrel
        by_cases hlt : k < la.length
        · obtain ⟨b, o, rfl, hbl, c0, c1, c2, c3, c4, c5, c6⟩ := (HV.out _ B4.out).at k hlt
          obtain ⟨hp1, hp2⟩ := HPL.out la[k] (List.getElem_mem hlt)
          obtain ⟨⟨x0, x1, x2, x3, x4, x5, x6⟩, hx⟩ : ∃ x, la[k] = x := ⟨_, rfl⟩
          rw [hx] at c0 c1 c2 c3 c4 c5 c6 hp1 hp2
          simp only at c0 c1 c2 c3 c4 c5 c6 hp1 hp2
          clear hx
          have hi1 : (k : Int) < (la.length : Int) := by omega
          have hbx := Has.new wr 41 [.int .i64 x0, .int .u64 (x1 : Int), .int .i64 x2, .int .i64 x3, .int .i64 x4, .string x5, .int .u64 (x6 : Int)]
          have hbB := (Below.refl wr.heap.size wr).alloc (Nat.le_refl _) (.cells #[.int .i64 x0, .int .u64 (x1 : Int), .int .i64 x2, .int .i64 x3, .int .i64 x4, .string x5, .int .u64 (x6 : Int)] 41)
          have T5 := Lib.hid (HT4.out.below hbB)
          have B5 := Lib.hid (B4.out.trans (hbB.mono B4.out.size))
          have hz5 : w2.heap.size ≤ (wr.alloc (.cells #[.int .i64 x0, .int .u64 (x1 : Int), .int .i64 x2, .int .i64 x3, .int .i64 x4, .string x5, .int .u64 (x6 : Int)] 41)).heap.size := by simp; omega
          clear hbB
          by_cases hd : x0 = 0
          · subst hd
            obtain ⟨kd, nn, lb, er, l', n', hC, hRf⟩ := two_read w2.heap.size G Rb mm a z q n l ev x1 hp1 x2 _ hz5 T5.out
            have HC := Lib.hid hC
            have HRf := Lib.hid hRf
            have BX := Lib.hid hbx
            clear hC hRf hbx
            go_wp2_with fail
            refine (HC.out).mono ?_
            rintro e w6 ⟨rfl, hT6, hk6, hb6⟩
            simp only [valA]
            have hbx6 := BX.out.keepsT hk6 (by simp)
            have b1 := hbx6.cell 1
            have b2 := hbx6.cell 2
            have hlb := hbx6.lt
            simp at b1 b2
            have hvB := (Below.refl w6.heap.size w6).alloc (Nat.le_refl _) (.cells #[.int .i64 kd, .int .i64 nn, .string ⟨#[]⟩, .int .u64 lb] 39)
            have hz6 : w2.heap.size ≤ w6.heap.size := Nat.le_trans hz5 hb6.size
            have T6 := Lib.hid (hT6.below hvB)
            have B6 := Lib.hid ((B5.out.trans (hb6.mono B2.out.size)).trans (hvB.mono (Nat.le_trans B2.out.size hz6)))
            have V6 := Lib.hid (Has.new w6 39 [.int .i64 kd, .int .i64 nn, .string ⟨#[]⟩, .int .u64 lb])
            have HRc := Lib.hid (HRf.out _ (Nat.le_trans hz6 hvB.size) T6.out (HZ.out _ B6.out))
            have hz6' : w2.heap.size ≤ (w6.alloc (.cells #[.int .i64 kd, .int .i64 nn, .string ⟨#[]⟩, .int .u64 lb] 39)).heap.size := Nat.le_trans hz6 hvB.size
            clear hT6 hk6 hb6 hbx6 hvB c0 c1 c2 c3 c4 c5 c6 hz5
            go_wp2_with fail
            refine (HRc.out).mono ?_
            rintro e w7 ⟨rfl, hT7, hk7, hb7⟩
            simp only [valA]
            have hv7 := V6.out.keepsT hk7 (by simp)
            have a0 := hv7.cell 0
            have a1 := hv7.cell 1
            have a2 := hv7.cell 2
            have a3 := hv7.cell 3
            have hla7 := hv7.lt
            simp at a0 a1 a2 a3
            have hvB := (Below.refl w7.heap.size w7).alloc (Nat.le_refl _) (.cells #[.int .i64 kd, .int .i64 nn, .string ⟨#[]⟩, .int .u64 lb] 39)
            have hz7 : w2.heap.size ≤ w7.heap.size := Nat.le_trans hz6' hb7.size
            have T7 := Lib.hid (hT7.below hvB)
            have B7 := Lib.hid ((B6.out.trans (hb7.mono B2.out.size)).trans (hvB.mono (Nat.le_trans B2.out.size hz7)))
            have hz7' : w2.heap.size ≤ (w7.alloc (.cells #[.int .i64 kd, .int .i64 nn, .string ⟨#[]⟩, .int .u64 lb] 39)).heap.size := Nat.le_trans hz7 hvB.size
            have HE := fun W => neqVal W kd nn lb ⟨#[]⟩
            have hee : (er != er) = false := by simp
            clear hT7 hk7 hb7 hv7 hvB b1 b2 hlb
            go_wp2
            go_roundw
            case rel => exact ⟨k + 1, n', l', ev, by go_num, by omega, by omega, hz7', T7, B7⟩
            case measure => simp [intOf]; omega
          · have hd2 : (x0 == 0) = false := by simpa using hd
            obtain ⟨er, ev', hev', hC, hRf⟩ := two_write w2.heap.size G Rb mm a z q n l ev (by omega) x1 x6 hp1 hp2 x2 x3 x4 x5 (wr.alloc (.cells #[.int .i64 x0, .int .u64 (x1 : Int), .int .i64 x2, .int .i64 x3, .int .i64 x4, .string x5, .int .u64 (x6 : Int)] 41)).drew hz5 (T5.out.keeps ((KeepsT.refl [] _).drew) (by simp) (by simp) (by simp) (by simp))
            have HC := Lib.hid hC
            have HRf := Lib.hid hRf
            have BX := Lib.hid hbx
            clear hC hRf
            have HS2 : Hid (∀ W', Has W' wr.heap.size 41 [.int .i64 x0, .int .u64 (x1 : Int), .int .i64 x2, .int .i64 x3, .int .i64 x4, .string x5, .int .u64 (x6 : Int)] → W'.cell? ⟨wr.heap.size, 1, none⟩ = some (.int .u64 (x1 : Int)) ∧ W'.cell? ⟨wr.heap.size, 2, none⟩ = some (.int .i64 x2) ∧ W'.cell? ⟨wr.heap.size, 3, none⟩ = some (.int .i64 x3) ∧ W'.cell? ⟨wr.heap.size, 4, none⟩ = some (.int .i64 x4) ∧ W'.cell? ⟨wr.heap.size, 5, none⟩ = some (.string x5) ∧ W'.cell? ⟨wr.heap.size, 6, none⟩ = some (.int .u64 (x6 : Int))) := Lib.hid (fun W' h => ⟨h.cell 1, h.cell 2, h.cell 3, h.cell 4, h.cell 5, h.cell 6⟩)
            clear hbx
            go_wp2
            have hX := BX.out
            change Code.wp _ _ _ _ (World.alloc wr _)
            generalize World.alloc wr _ = W5 at hX T5 B5 hz5 HC BX ⊢
            obtain ⟨b1, b2, b3, b4, b5, b6⟩ := HS2.out W5 hX
            have hlx := hX.lt
            clear hX c0 c1 c2 c3 c4 c5 c6
            go_region_held3 (fun W' => W'.cell? ⟨wr.heap.size, 1, none⟩ = some (.int .u64 (x1 : Int)) ∧ W'.cell? ⟨wr.heap.size, 2, none⟩ = some (.int .i64 x2) ∧ W'.cell? ⟨wr.heap.size, 3, none⟩ = some (.int .i64 x3) ∧ W'.cell? ⟨wr.heap.size, 4, none⟩ = some (.int .i64 x4) ∧ W'.cell? ⟨wr.heap.size, 5, none⟩ = some (.string x5) ∧ W'.cell? ⟨wr.heap.size, 6, none⟩ = some (.int .u64 (x6 : Int)))
              (first | exact HS2.out _ BX.out.drew | exact HS2.out _ x6' | exact HS2.out _ x7')
              (first
                | (go_at_call 11
                   refine (HC.out).mono ?_
                   rintro e w6 ⟨rfl, hT6, hk6, hb6⟩
                   have x6' := BX.out.drew.keepsT hk6 (by simp)
                   have hz6 : w2.heap.size ≤ w6.heap.size := Nat.le_trans hz5 hb6.size)
                | (go_at_call 12
                   refine (HRf.out w6 hz6 hT6).mono ?_
                   rintro e w7 ⟨rfl, hT7, hk7, hb7⟩
                   have x7' := x6'.keepsT hk7 (by simp)))
            all_goals
              have T7 := Lib.hid hT7
              have B7 := Lib.hid (((B5.out.drew).trans (hb6.mono B2.out.size)).trans (hb7.mono B2.out.size))
              have hz7 : w2.heap.size ≤ w7.heap.size := Nat.le_trans hz6 hb7.size
              have hee : (er != er) = false := by simp
              clear hT7 hT6 hk6 hk7 hb6 hb7 x6' x7'
              go_wp2
              go_roundw
              case rel => exact ⟨k + 1, n, l, ev', by go_num, by omega, by omega, hz7, T7, B7⟩
              case measure => simp [intOf]; omega
        · obtain rfl : k = la.length := by omega
          have hlt2 : ¬ (la.length : Int) < (la.length : Int) := by omega
          obtain ⟨sv, su, hW, hR, hd, hM⟩ := HT4.out
          have hl8 := hW.2.2.2.1
          have HE := Lib.hid (events_any w2.heap.size G l ev (by omega) wr.drew (hW.isW.keeps ((KeepsT.refl [] _).drew) (by simp) (by simp) (by simp)))
          have HPm := plV_mt hM hl8
          have HP := Lib.hid (fun (W : World) (hb : Below wr.heap.size wr W) => places_any w2.heap.size G l ev W (hW.isW.below hb))
          have HPM := Lib.hid HPm
          have d24 := (hR.1.cell 24).trans (refCells_sv hR.2.2.2.1)
          have hlr := hR.1.lt
          have d16 := (hR.1.cell 16)
          have d17 := (hR.1.cell 17)
          have d18 := (hR.1.cell 18)
          have d19 := (hR.1.cell 19)
          have d20 := (hR.1.cell 20)
          have d21 := (hR.1.cell 21)
          have d22 := (hR.1.cell 22)
          have d23 := (hR.1.cell 23)
          simp [refCells, refL] at d16 d17 d18 d19 d20 d21 d22 d23
          have HSm := Lib.hid (fun (W : World) (v : Value) (hb : Below wr.heap.size wr W) (hv : EvsAt W v ev) => same_self ev v su W hv ((evs_of_own hR.2.1).below hb))
          obtain ⟨av9, cp9, hsu⟩ := own_slice hR.2.1
          subst hsu
          have HCe : Hid (∀ W', Below wr.heap.size wr W' → W'.cell? ⟨Rb, 24, none⟩ = some (.slice av9 ev.length cp9) ∧ W'.cell? ⟨Rb, 16, none⟩ = some (.int .i64 (n 0 : Int)) ∧ W'.cell? ⟨Rb, 17, none⟩ = some (.int .i64 (n 1 : Int)) ∧ W'.cell? ⟨Rb, 18, none⟩ = some (.int .i64 (n 2 : Int)) ∧ W'.cell? ⟨Rb, 19, none⟩ = some (.int .i64 (n 3 : Int)) ∧ W'.cell? ⟨Rb, 20, none⟩ = some (.int .i64 (n 4 : Int)) ∧ W'.cell? ⟨Rb, 21, none⟩ = some (.int .i64 (n 5 : Int)) ∧ W'.cell? ⟨Rb, 22, none⟩ = some (.int .i64 (n 6 : Int)) ∧ W'.cell? ⟨Rb, 23, none⟩ = some (.int .i64 (n 7 : Int))) := Lib.hid (fun W' hb => ⟨(hb.cell (p := ⟨Rb, 24, none⟩) hlr).trans d24, (hb.cell (p := ⟨Rb, 16, none⟩) hlr).trans d16, (hb.cell (p := ⟨Rb, 17, none⟩) hlr).trans d17, (hb.cell (p := ⟨Rb, 18, none⟩) hlr).trans d18, (hb.cell (p := ⟨Rb, 19, none⟩) hlr).trans d19, (hb.cell (p := ⟨Rb, 20, none⟩) hlr).trans d20, (hb.cell (p := ⟨Rb, 21, none⟩) hlr).trans d21, (hb.cell (p := ⟨Rb, 22, none⟩) hlr).trans d22, (hb.cell (p := ⟨Rb, 23, none⟩) hlr).trans d23⟩)
          have hq := fun W => eqPlB W (n 0) (n 1) (n 2) (n 3) (n 4) (n 5) (n 6) (n 7)
          clear hW hR hd hM HPm
          go_wp2
          go_region_held3 (fun W' => W'.cell? ⟨Rb, 24, none⟩ = some (.slice av9 ev.length cp9) ∧ W'.cell? ⟨Rb, 16, none⟩ = some (.int .i64 (n 0 : Int)) ∧ W'.cell? ⟨Rb, 17, none⟩ = some (.int .i64 (n 1 : Int)) ∧ W'.cell? ⟨Rb, 18, none⟩ = some (.int .i64 (n 2 : Int)) ∧ W'.cell? ⟨Rb, 19, none⟩ = some (.int .i64 (n 3 : Int)) ∧ W'.cell? ⟨Rb, 20, none⟩ = some (.int .i64 (n 4 : Int)) ∧ W'.cell? ⟨Rb, 21, none⟩ = some (.int .i64 (n 5 : Int)) ∧ W'.cell? ⟨Rb, 22, none⟩ = some (.int .i64 (n 6 : Int)) ∧ W'.cell? ⟨Rb, 23, none⟩ = some (.int .i64 (n 7 : Int)))
            (first | exact HCe.out _ (Below.refl _ _).drew | exact HCe.out _ p1 | exact HCe.out _ p2 | exact HCe.out _ p3)
            (first
              | (go_at_call 14
                 refine (HE.out).mono ?_
                 rintro e w5 ⟨av5, cp5, rfl, ho5, hb5⟩
                 have p1 : Below wr.heap.size wr w5 := ((Below.refl _ _).drew).trans (hb5.mono (by simp)))
              | (go_at_call 13
                 refine (HSm.out _ _ p1 (evs_of_own ho5)).mono ?_
                 rintro e w6 ⟨rfl, hb6⟩
                 have p2 : Below wr.heap.size wr w6 := p1.trans (hb6.mono p1.size))
              | (go_at_call 15
                 refine (HP.out _ p2).mono ?_
                 rintro e w7 ⟨he7, hb7⟩
                 rw [HPM.out] at he7
                 subst he7
                 have p3 : Below wr.heap.size wr w7 := p2.trans (hb7.mono p2.size)))
          all_goals
            go_wp2
            go_ret
            exact ⟨by first | rfl | (simp; done), B4.out.trans (p3.mono B4.out.size)⟩
section
variable {H : Type} {enc : TypeId × Value → H}
theorem worldActs_u {b0 : Nat} {d d' : DataW H} {ps ps' : List MemPlace} {sp : Nat → Bool} (v u x : Value) (w : World) (g0 : Value.okWide Try.prog w .any b0 24 v) (g1 : Value.okWide Try.prog w .any b0 27 u) (h1 : DataW.Trod enc Try.prog w 0 sp true 27 u d ps)
    (hw1 : ∀ n ∈ d.weights Try.prog 27, n ≤ reachBytes) (g2 : Value.okWide Try.prog w .any b0 28 x) (h2 : DataW.Trod enc Try.prog w 0 sp true 28 x d' ps') (hw2 : ∀ n ∈ d'.weights Try.prog 28, n ≤ reachBytes) :
    Calls Try.prog 3 #[v, u, x] w fun e w' => e = .returned (.bool true) ∧ Below w.heap.size w w' := by
  obtain ⟨m0, m1, m2, m3, m4, m5, m6, m7, rfl, hms⟩ := open_masks g0
  obtain ⟨a, z, q, rfl, hzl, hz⟩ := open_inputs g1 h1 hw1
  obtain ⟨la, hv, hla, hpl⟩ := open_acts g2 h2 hw2
  exact worldActs_any m0 m1 m2 m3 m4 m5 m6 m7 hms a z q hzl la hla hpl x w hz hv
end
end WorldD
end Go.Proofs.Yteohgacblilfmaa
