/- The walk of WorldSees. -/
import Derived.Test.YteohgacblilfmaaWorld6
namespace Go.Proofs.Yteohgacblilfmaa
open Go.RowKit ObjM Shell Go.ChangeShapes Go.WideShapes
namespace WorldD
open LabelM LabelD TraceD

theorem flows_or {a b c : Nat} (ha : a < M64) (hb : b < M64) (h : flowsB (a ||| b) c = true) : flowsB a c = true ∧ flowsB b c = true := by
  have h' := (flows_iff64 c (or_lt ha hb)).1 h
  refine ⟨(flows_iff64 c ha).2 fun i hi hx => h' i hi (by simp [hx]), (flows_iff64 c hb).2 fun i hi hx => h' i hi (by simp [hx])⟩
def WStay (w : World) (e : Ending) (w' : World) : Prop := ∃ err : Int, e = .returned (.int .i64 err) ∧ Below w.heap.size w w'
/-- Where nothing is put out. -/
def stays (l : List Ch) (pc lab : Nat) (k : Int) : Prop := (k < 0 ∨ 8 ≤ k) ∨ ∃ (j : Nat) (c : Ch), k = j ∧ l[j]? = some c ∧ j < 8 ∧ flowsB (pc ||| lab) c.m = false
theorem write_stay (B G : Nat) (l : List Ch) (ev : List Ev) (pc lab : Nat) (k : Int) (hpc : pc < M64) (hlab : lab < M64) (hs : stays l pc lab k) (kd n : Int) (s : ByteArray) (w : World) (hI : IsW w B G l ev) :
    Calls Try.prog 11 #[.pointer (some ⟨G, 0, none⟩), .int .u64 (pc : Int), .int .i64 k, .agg #[.int .i64 kd, .int .i64 n, .string s, .int .u64 (lab : Int)]] w (WStay w) := by
  obtain ⟨sv, hG, hO, hBG, hl8, hok⟩ := hI
  rcases hs with h | ⟨j, c, rfl, hc, hj, hfl⟩
  · exact (write_out _ _ k h kd n lab s w).mono fun e w' hw => ⟨_, hw⟩
  · exact (write_no G l sv pc j lab hpc hlab c hc hj (hok c (List.mem_of_getElem? hc)).1 hfl kd n s w hG).mono fun e w' hw => ⟨_, hw⟩
theorem stays_or (l : List Ch) (hl : l.length = 8) (pc lab : Nat) (k : Int) : stays l pc lab k ∨ ∃ (j : Nat) (c : Ch), k = j ∧ l[j]? = some c ∧ j < 8 ∧ flowsB (pc ||| lab) c.m = true := by
  by_cases h : 0 ≤ k ∧ k < 8
  · obtain ⟨j, rfl⟩ : ∃ j : Nat, k = j := ⟨k.toNat, by omega⟩
    have hc : l[j]? = some (l[j]'(by omega)) := List.getElem?_eq_getElem (by omega)
    cases hf : flowsB (pc ||| lab) (l[j]'(by omega)).m
    · exact .inl (.inr ⟨j, _, rfl, hc, by omega, hf⟩)
    · exact .inr ⟨j, _, rfl, hc, by omega, hf⟩
  · exact .inl (.inl (by omega))

set_option maxRecDepth 100000 in
set_option maxHeartbeats 4000000 in
theorem worldSees_any (m0 m1 m2 m3 m4 m5 m6 m7 : Nat) (hms : ∀ j, [m0, m1, m2, m3, m4, m5, m6, m7].getD j 0 < M64) (a : Nat → Option Addr) (z : Nat → List Int) (q : Nat → Nat) (hzl : ∀ j, (z j).length ≤ 17592186044416) (la : List ActM) (hla : la.length ≤ 2199023255552) (hpl : ∀ x ∈ la, x.pc < M64 ∧ x.lab < M64) (v : Value) (w : World)
    (hz : ∀ j, j < 8 → IntsAt w .i64 (.slice (a j) (z j).length (q j)) (z j)) (hv : ActsAt w v la) :
    Calls Try.prog 4 #[.agg #[.int .u64 (m0 : Int), .int .u64 (m1 : Int), .int .u64 (m2 : Int), .int .u64 (m3 : Int), .int .u64 (m4 : Int), .int .u64 (m5 : Int), .int .u64 (m6 : Int), .int .u64 (m7 : Int)], .agg (inV a z q).toArray, v] w fun e w' => e = .returned (.bool true) ∧ Below w.heap.size w w' := by
  have HV := Lib.hid (fun (W : World) (hb : Below w.heap.size w W) => hv.below hb)
  have HFw := Lib.hid (fun (W : World) (hb : Below w.heap.size w W) => few_any a z q la v W (hv.below hb))
  have HNw := Lib.hid (fun (W : World) (hb : Below w.heap.size w W) => new_any m0 m1 m2 m3 m4 m5 m6 m7 hms a z q hzl W (fun j hj => (hz j hj).below hb (Nat.le_refl _)))
  obtain ⟨av, cw, rfl⟩ := hv.shape
  have r0 := (Has.new w 24 [.int .u64 (m0 : Int), .int .u64 (m1 : Int), .int .u64 (m2 : Int), .int .u64 (m3 : Int), .int .u64 (m4 : Int), .int .u64 (m5 : Int), .int .u64 (m6 : Int), .int .u64 (m7 : Int)]).keepsT ((KeepsT.refl [] _).alloc (.cells (inV a z q).toArray 27)) (by simp)
  have r1 := Has.new (w.alloc (.cells #[.int .u64 (m0 : Int), .int .u64 (m1 : Int), .int .u64 (m2 : Int), .int .u64 (m3 : Int), .int .u64 (m4 : Int), .int .u64 (m5 : Int), .int .u64 (m6 : Int), .int .u64 (m7 : Int)] 24)) 27 (inV a z q)
  simp only [World.size_alloc] at r1
  have rB : Below w.heap.size w ((w.alloc (.cells #[.int .u64 (m0 : Int), .int .u64 (m1 : Int), .int .u64 (m2 : Int), .int .u64 (m3 : Int), .int .u64 (m4 : Int), .int .u64 (m5 : Int), .int .u64 (m6 : Int), .int .u64 (m7 : Int)] 24)).alloc (.cells (inV a z q).toArray 27)) := ((Below.refl _ w).alloc (Nat.le_refl _) _).alloc (by simp) _
  have hil : (inV a z q).length = 8 := rfl
  obtain ⟨ia, hia⟩ : ∃ x, inV a z q = x := ⟨_, rfl⟩
  simp only [hia] at HFw HNw r0 r1 rB hil ⊢
  clear hia hz hv hzl
  have HA := fun W => Lib.hid (awake_any W)
  have HMC : Hid (∀ (j : Nat) (W' : World), j < 8 → Has W' w.heap.size 24 [.int .u64 (m0 : Int), .int .u64 (m1 : Int), .int .u64 (m2 : Int), .int .u64 (m3 : Int), .int .u64 (m4 : Int), .int .u64 (m5 : Int), .int .u64 (m6 : Int), .int .u64 (m7 : Int)] → W'.cell? ⟨w.heap.size, j, none⟩ = some (.int .u64 (([m0, m1, m2, m3, m4, m5, m6, m7].getD j 0 : Nat) : Int))) := Lib.hid (by
    intro j W' hj h
    rw [h.cell j]
    rcases lt8 hj with rfl | rfl | rfl | rfl | rfl | rfl | rfl | rfl <;> rfl)
  go_enter Try.func4, Try.ntmps4
  go_wp2_with fail
  with_reducible refine ((HA _).out).mono ?_
  rintro e w1 ⟨rfl, hb1⟩
  have r0' := r0.below hb1 r0.lt
  have r1' := r1.below hb1 r1.lt
  have B1 := Lib.hid (rB.trans (hb1.mono rB.size))
  clear r0 r1 rB hb1 HA
  have hldI := Lib.hid (run_load_all (P := Try.prog) (T := 27) (i0 := 0) (bs := []) (ds := []) 8 (by kernel_rfl) (by kernel_rfl) (by simpa using r1') rfl hil)
  have R0 := Lib.hid r0'
  have R1 := Lib.hid r1'
  clear r0' r1'
  go_wp2_with (refine wpList_load_run rfl (.tmp 4) 27 rfl _ _ rfl hldI.out ?_)
  refine (HFw.out _ B1.out).mono ?_
  rintro e w2 ⟨b, rfl, hb2⟩
  have B2 := Lib.hid (B1.out.trans (hb2.mono B1.out.size))
  cases b
  · clear hb2
    go_wp2
    go_ret
    exact ⟨rfl, B2.out⟩
  · have r0 := R0.out.below hb2 R0.out.lt
    have r1 := R1.out.below hb2 R1.out.lt
    clear hldI R0 R1 hb2
    have hldI := Lib.hid (run_load_all (P := Try.prog) (T := 27) (i0 := 0) (bs := []) (ds := []) 8 (by kernel_rfl) (by kernel_rfl) (by simpa using r1) rfl hil)
    have hldM := Lib.hid (run_load_all (P := Try.prog) (T := 24) (i0 := 0) (bs := []) (ds := []) 8 (by kernel_rfl) (by kernel_rfl) (by simpa using r0) rfl (by rfl))
    have R0 := Lib.hid r0
    clear r0 r1
    go_wp2_with (first
      | (refine wpList_load_run rfl (.tmp 4) 27 rfl _ _ rfl hldI.out ?_)
      | (refine wpList_load_run rfl (.tmp 3) 24 rfl _ _ rfl hldM.out ?_))
    refine (HNw.out _ B2.out).mono ?_
    rintro e w3 ⟨G, l, rfl, hI, hl, hb3⟩
    have R3 := Lib.hid (R0.out.below hb3 R0.out.lt)
    have B3 := Lib.hid (B2.out.trans (hb3.mono B2.out.size))
    have HI := Lib.hid hI
    have HL := Lib.hid hl
    have hBs : w2.heap.size ≤ w3.heap.size := hb3.size
    clear hI hl hb3 hldI hldM R0
    go_wp2
    have hl8 : l.length = 8 := by
      obtain ⟨sv, hG, hO, hBG, hl8, hok⟩ := HI.out
      exact hl8
    have HE := Lib.hid (fun (W : World) (ev : List Ev) (hv : ev.length ≤ 2600000000000) (h : IsW W w2.heap.size G l ev) => events_any w2.heap.size G l ev hv W h)
    have HP := Lib.hid (fun (W : World) (ev : List Ev) (h : IsW W w2.heap.size G l ev) => places_any w2.heap.size G l ev W h)
    have HPL := Lib.hid hpl
    have HMS := Lib.hid hms
    clear hpl hms HNw HFw
    go_loopw [25] (fun i wr => ∃ (k : Nat) (ev : List Ev), i = .int .i64 k ∧ k ≤ la.length ∧ ev.length ≤ k ∧ w2.heap.size ≤ wr.heap.size ∧ Hid (IsW wr w2.heap.size G l ev) ∧ Hid (Has wr w.heap.size 24 [.int .u64 (m0 : Int), .int .u64 (m1 : Int), .int .u64 (m2 : Int), .int .u64 (m3 : Int), .int .u64 (m4 : Int), .int .u64 (m5 : Int), .int .u64 (m6 : Int), .int .u64 (m7 : Int)]) ∧ Hid (Below w.heap.size w wr)) (fun i _ => la.length - (intOf i).toNat)
    case atStart => exact ⟨0, [], rfl, by omega, by simp, hBs, HI, R3, B3⟩
    case round =>
      obtain ⟨k, ev, rfl, hk, hev, hsz, HI4, R4, B4⟩ := hrel
      by_cases hlt : k < la.length
      · obtain ⟨b, o, rfl, hbl, c0, c1, c2, c3, c4, c5, c6⟩ := (HV.out _ B4.out).at k hlt
        obtain ⟨hp1, hp2⟩ := HPL.out la[k] (List.getElem_mem hlt)
        obtain ⟨⟨x0, x1, x2, x3, x4, x5, x6⟩, hx⟩ : ∃ x, la[k] = x := ⟨_, rfl⟩
        rw [hx] at c0 c1 c2 c3 c4 c5 c6 hp1 hp2
        simp only at c0 c1 c2 c3 c4 c5 c6 hp1 hp2
        clear hx
        have hi1 : (k : Int) < (la.length : Int) := by omega
        have hbx := Has.new wr 41 [.int .i64 x0, .int .u64 (x1 : Int), .int .i64 x2, .int .i64 x3, .int .i64 x4, .string x5, .int .u64 (x6 : Int)]
        have hbB := (Below.refl wr.heap.size wr).alloc (Nat.le_refl _) (.cells #[.int .i64 x0, .int .u64 (x1 : Int), .int .i64 x2, .int .i64 x3, .int .i64 x4, .string x5, .int .u64 (x6 : Int)] 41)
        have HBX := Lib.hid hbx
        have HBB := Lib.hid hbB
        have I5 := Lib.hid (HI4.out.below hbB)
        have R5 := Lib.hid (R4.out.below hbB R4.out.lt)
        have B5 := Lib.hid (B4.out.trans (hbB.mono B4.out.size))
        have E5 := Lib.hid (HE.out _ ev (by omega) I5.out)
        have hz5 : w2.heap.size ≤ (wr.alloc (.cells #[.int .i64 x0, .int .u64 (x1 : Int), .int .i64 x2, .int .i64 x3, .int .i64 x4, .string x5, .int .u64 (x6 : Int)] 41)).heap.size := by simp; omega
        have hso := stays_or l hl8 x1 x6 x2
        clear hbx hbB
        go_wp2_with fail
        refine (E5.out).mono ?_
        rintro e w6 ⟨av1, cp1, rfl, -, hb6⟩
        have hbx6 := HBX.out.below hb6 HBX.out.lt
        have I6 := Lib.hid (I5.out.below hb6)
        have R6 := Lib.hid (R5.out.below hb6 R5.out.lt)
        have B6 := Lib.hid (B5.out.trans (hb6.mono B5.out.size))
        have hz6 : w2.heap.size ≤ w6.heap.size := Nat.le_trans hz5 hb6.size
        have b1 := hbx6.cell 1
        have b2 := hbx6.cell 2
        have b3 := hbx6.cell 3
        have b4 := hbx6.cell 4
        have b5 := hbx6.cell 5
        have b6 := hbx6.cell 6
        have hlb := hbx6.lt
        simp at b1 b2 b3 b4 b5 b6
        have HX6 := Lib.hid hbx6
        clear hbx6 hb6 hz5 c0 c1 c2 c3 c4 c5 c6
        rcases hso with hs | ⟨j, c, rfl, hc, hj, hfl⟩
        · have HW := Lib.hid (write_stay w2.heap.size G l ev x1 x6 x2 hp1 hp2 hs x3 x4 x5 w6 I6.out)
          clear hs
          go_wp2_with fail
          refine (HW.out).mono ?_
          rintro e w7 ⟨er, rfl, hb7⟩
          have I7 := Lib.hid (I6.out.below hb7)
          have R7 := Lib.hid (R6.out.below hb7 R6.out.lt)
          have B7 := Lib.hid (B6.out.trans (hb7.mono B6.out.size))
          have hz7 : w2.heap.size ≤ w7.heap.size := Nat.le_trans hz6 hb7.size
          have E7 := Lib.hid (HE.out _ ev (by omega) I7.out)
          clear hb7 b1 b2 b3 b4 b5 b6 hlb
          go_wp2_with fail
          refine (E7.out).mono ?_
          rintro e w8 ⟨av2, cp2, rfl, -, hb8⟩
          have I8 := Lib.hid (I7.out.below hb8)
          have R8 := Lib.hid (R7.out.below hb8 R7.out.lt)
          have B8 := Lib.hid (B7.out.trans (hb8.mono B7.out.size))
          have hz8 : w2.heap.size ≤ w8.heap.size := Nat.le_trans hz7 hb8.size
          clear hb8
          go_wp2
          go_roundw
          case rel => exact ⟨k + 1, ev, by go_num, by omega, by omega, hz8, I8, R8, B8⟩
          case measure => simp [intOf]; omega
        · have HW := Lib.hid (write_ok w2.heap.size G l ev (by omega) x1 j x6 hp1 hp2 c hc hj hfl x3 x4 x5 w6 hz6 I6.out)
          have hcm : c.m = [m0, m1, m2, m3, m4, m5, m6, m7].getD j 0 := (HL.out j c hc).1
          have hcM : c.m < M64 := by rw [hcm]; exact HMS.out j
          obtain ⟨f1, f2⟩ := flows_or hp1 hp2 hfl
          have HF1 := fun W => Lib.hid (refFlows_any x1 c.m hp1 hcM W)
          have HF2 := fun W => Lib.hid (refFlows_any x6 c.m hp2 hcM W)
          rw [f1] at HF1
          rw [f2] at HF2
          obtain ⟨m, cv, cxs, cn⟩ := c
          simp only at hcm HF1 HF2
          have hMC := HMC.out j
          rw [← hcm] at hMC
          have HMJ := Lib.hid (fun W' => hMC W' hj)
          have hj8i : (j : Int) < 8 := by omega
          have hj0i : (0 : Int) ≤ (j : Int) := by omega
          clear f1 f2 hfl hc hcm hcM hMC
          go_wp2_with fail
          refine (HW.out).mono ?_
          rintro e w7 ⟨rfl, hI7, hk7, hb7⟩
          have hX7 := HX6.out.keepsT hk7 (by simp)
          have I7 := Lib.hid hI7
          have R7 := Lib.hid (R6.out.keepsT hk7 (by simp))
          have hz7 : w2.heap.size ≤ w7.heap.size := Nat.le_trans hz6 hb7.size
          have B7 := Lib.hid (B6.out.trans (hb7.mono (Nat.le_trans B2.out.size (Nat.le_refl _))))
          have E7 := Lib.hid (HE.out _ _ (by simp; omega) I7.out)
          have X7 := Lib.hid hX7
          clear hI7 hk7 hb7 hX7 b1 b2 b3 b4 b5 b6 hlb
          go_wp2_with fail
          refine (E7.out).mono ?_
          rintro e w8 ⟨av2, cp2, rfl, -, hb8⟩
          have X8 := X7.out.below hb8 X7.out.lt
          have I8 := Lib.hid (I7.out.below hb8)
          have R8 := Lib.hid (R7.out.below hb8 R7.out.lt)
          have B8 := Lib.hid (B7.out.trans (hb8.mono B7.out.size))
          have hz8 : w2.heap.size ≤ w8.heap.size := Nat.le_trans hz7 hb8.size
          have b1 := X8.cell 1
          have b2 := X8.cell 2
          have b6 := X8.cell 6
          have hlb := X8.lt
          simp at b1 b2 b6
          have mj := HMJ.out w8 R8.out
          have hlm := R8.out.lt
          clear hb8 X8
          have hwr : IntKind.i64.wrap ((ev.length : Int) + 1) = (ev.length : Int) + 1 := IntWalk.i64_in _ (by omega)
          have d1 : decide ((j : Int) < 0) = false := by simp
          have d2 : decide ((7 : Int) < (j : Int)) = false := by simp; omega
          have d3 : decide ((j : Int) > 7) = false := by simp; omega
          have hl2 : (ev ++ [evOf j x3 x4 x5]).length = ev.length + 1 := by simp
          clear HX6 E7 HMJ HW X7 I7 R7 B7 E5 I6 R6 B6 I5 R5 B5 HBX HBB
          go_wp2
          go_quiet ((first | (go_at_call 16; with_reducible exact quiet_left (HF1 _).out) | (go_at_call 16; with_reducible exact quiet_left (HF2 _).out)))
          have I9 := Lib.hid (I8.out.keeps ((KeepsT.refl [] w8).drewN nq) (by simp) (by simp) (by simp))
          have R9 := Lib.hid (R8.out.keepsT ((KeepsT.refl [] w8).drewN nq) (by simp))
          have B9 := Lib.hid (below_drewN B8.out nq)
          have hz9 : w2.heap.size ≤ (w8.drewN nq).heap.size := hz8
          generalize w8.drewN nq = w9 at I9 R9 B9 hz9 ⊢
          clear hwr d1 d2 d3 hl2
          go_wp2
          go_roundw
          case rel => exact ⟨k + 1, _, by go_num, by omega, by simp; omega, hz9, I9, R9, B9⟩
          case measure => simp [intOf]; omega
      · obtain rfl : k = la.length := by omega
        have hlt2 : ¬ (la.length : Int) < (la.length : Int) := by omega
        have HP4 := Lib.hid (HP.out _ _ HI4.out)
        have hpz : plV (nAt l) 8 = [.int .i64 0, .int .i64 0, .int .i64 0, .int .i64 0, .int .i64 0, .int .i64 0, .int .i64 0, .int .i64 0] := by
          have hn : ∀ j, nAt l j = 0 := by
            intro j
            unfold nAt
            rw [List.getD_eq_getElem?_getD, List.getElem?_map]
            cases hc : l[j]? with
            | none => rfl
            | some c => exact (HL.out j c hc).2.2
          simp [plV, List.range_succ, hn]
        unfold PlacesIs at HP4
        rw [hpz] at HP4
        have he := eq8
        simp only [zeros8] at he
        clear hpz
        go_wp2_with fail
        refine (HP4.out).mono ?_
        rintro e w5 ⟨rfl, hb5⟩
        have B5 := Lib.hid (B4.out.trans (hb5.mono B4.out.size))
        clear hb5
        go_wp2
        go_ret
        exact ⟨by first | rfl | (simp; done), B5.out⟩
section
variable {H : Type} {enc : TypeId × Value → H}
theorem worldSees_u {b0 : Nat} {d d' : DataW H} {ps ps' : List MemPlace} {sp : Nat → Bool} (v u x : Value) (w : World) (g0 : Value.okWide Try.prog w .any b0 24 v) (g1 : Value.okWide Try.prog w .any b0 27 u) (h1 : DataW.Trod enc Try.prog w 0 sp true 27 u d ps)
    (hw1 : ∀ n ∈ d.weights Try.prog 27, n ≤ reachBytes) (g2 : Value.okWide Try.prog w .any b0 28 x) (h2 : DataW.Trod enc Try.prog w 0 sp true 28 x d' ps') (hw2 : ∀ n ∈ d'.weights Try.prog 28, n ≤ reachBytes) :
    Calls Try.prog 4 #[v, u, x] w fun e w' => e = .returned (.bool true) ∧ Below w.heap.size w w' := by
  obtain ⟨m0, m1, m2, m3, m4, m5, m6, m7, rfl, hms⟩ := open_masks g0
  obtain ⟨a, z, q, rfl, hzl, hz⟩ := open_inputs g1 h1 hw1
  obtain ⟨la, hv, hla, hpl⟩ := open_acts g2 h2 hw2
  exact worldSees_any m0 m1 m2 m3 m4 m5 m6 m7 hms a z q hzl la hla hpl x w hz hv
end
end WorldD
end Go.Proofs.Yteohgacblilfmaa
