/- A law's list of acts, opened; GuardLow. -/
import Derived.Test.YtnlblmdmhfahpaaGuardAwake
namespace Go.Proofs.Ytnlblmdmhfahpaa
open Go.RowKit ObjM Go.ChangeShapes Go.WideShapes Go.Deep
namespace GuardD
open LabelM LabelD GuardM

structure ActM where
  d : Int
  l : Nat
  p : Int
  t : Int
def ActCells (W : World) (b o : Nat) (i : Nat) (a : ActM) : Prop :=
  W.cell? ⟨b, o + i * 4, none⟩ = some (.int .i64 a.d) ∧ W.cell? ⟨b, o + i * 4 + 1, none⟩ = some (.int .u64 (a.l : Int)) ∧ W.cell? ⟨b, o + i * 4 + 2, none⟩ = some (.int .i64 a.p) ∧ W.cell? ⟨b, o + i * 4 + 3, none⟩ = some (.int .i64 a.t)
def ActsAt (W : World) (v : Value) (la : List ActM) : Prop :=
  (v = .slice none 0 0 ∧ la = []) ∨ ∃ b o cap, v = .slice (some ⟨b, o, none⟩) la.length cap ∧ la.length ≤ cap ∧ cap ≤ 9223372036854775807 ∧ b < W.heap.size ∧ ∀ (i : Nat) a, la[i]? = some a → ActCells W b o i a
theorem list_of {α : Type} {R : Nat → α → Prop} : ∀ (n : Nat), (∀ i, i < n → ∃ a, R i a) → ∃ l : List α, l.length = n ∧ ∀ (i : Nat) a, l[i]? = some a → R i a
  | 0, _ => ⟨[], rfl, fun i a h => by simp at h⟩
  | n + 1, h => by
    obtain ⟨l, hl, hR⟩ := list_of n fun i hi => h i (by omega)
    obtain ⟨a, ha⟩ := h n (by omega)
    refine ⟨l ++ [a], by simp [hl], fun i x hx => ?_⟩
    rcases Nat.lt_or_ge i l.length with hi | hi
    · rw [List.getElem?_append_left hi] at hx
      exact hR i x hx
    · rw [List.getElem?_append_right hi] at hx
      have hi2 : i - l.length = 0 := by
        have := (List.getElem?_eq_some_iff.1 hx).1
        simp at this
        omega
      rw [hi2] at hx
      simp at hx
      have : i = n := by omega
      rw [this, ← hx]
      exact ha
theorem addr_add (b o : Nat) (n : Nat) : (⟨b, o, none⟩ : Addr).add n = ⟨b, o + n, none⟩ := by
  unfold Addr.add
  split
  · rename_i h; subst h; rfl
  · rfl
section
variable {H : Type} {enc : TypeId × Value → H}
theorem act_desc : ∃ f0 f1 f2 f3 : Field, Try.prog.underlying 33 = some (.struct #[f0, f1, f2, f3]) ∧ oneCellFields Try.prog #[f0, f1, f2, f3] = true ∧ Try.prog.underlying f0.type = some (.int .i64) ∧ Try.prog.underlying f1.type = some (.int .u64) ∧ Try.prog.underlying f2.type = some (.int .i64) ∧ Try.prog.underlying f3.type = some (.int .i64) :=
  ⟨_, _, _, _, Try.underlying33, by kernel_rfl, by kernel_rfl, by kernel_rfl, by kernel_rfl, by kernel_rfl⟩
theorem open_acts {W : World} {r : Reach} {b0 : Nat} {v : Value} {d : DataW H} {ps : List MemPlace} {sp : Nat → Bool} (hval : Value.okWide Try.prog W r b0 24 v) (hd : DataW.Trod enc Try.prog W 0 sp true 24 v d ps) :
    ∃ la : List ActM, ActsAt W v la ∧ ∀ a ∈ la, a.l < M64 := by
  have hcell : Cell.okWide Try.prog W r b0 24 v := by
    have h := hval
    unfold Value.okWide at h
    rw [Try.underlying24] at h
    exact h
  obtain ⟨f0, f1, f2, f3, hs, hone, k0, k1, k2, k3⟩ := act_desc
  obtain ⟨fuel, hf⟩ := hd
  rcases Shell.ok_slice Try.underlying24 hcell with rfl | ⟨b, o, len, cap, rfl, hlc, hcap, hb⟩
  · exact ⟨[], .inl ⟨rfl, rfl⟩, by simp⟩
  · rcases Shell.open_slice_fields Try.underlying24 hs hone (show Try.prog.cellsOf 33 = 4 by kernel_rfl) hf with h | ⟨a, len', cap', h, _, _, hc⟩
    · simp [Value.cells] at h
    · simp [Value.cells] at h
      obtain ⟨rfl, rfl, rfl⟩ := h
      have each : ∀ i, i < len → ∃ a : ActM, ActCells W b o i a ∧ a.l < M64 := by
        intro i hi
        obtain ⟨v0, y0, n0, c0, t0⟩ := hc i hi 0 f0 rfl
        obtain ⟨v1, y1, n1, c1, t1⟩ := hc i hi 1 f1 rfl
        obtain ⟨v2, y2, n2, c2, t2⟩ := hc i hi 2 f2 rfl
        obtain ⟨v3, y3, n3, c3, t3⟩ := hc i hi 3 f3 rfl
        obtain ⟨x0, e0, -, w0⟩ := DataW.trod_int k0 t0
        obtain ⟨x1, e1, -, w1⟩ := DataW.trod_int k1 t1
        obtain ⟨x2, e2, -, w2⟩ := DataW.trod_int k2 t2
        obtain ⟨x3, e3, -, w3⟩ := DataW.trod_int k3 t3
        injection e0 with e0
        injection e1 with e1
        injection e2 with e2
        injection e3 with e3
        subst e0 e1 e2 e3
        rw [addr_add] at c0 c1 c2 c3
        have hu := bounds_u64 w1
        obtain ⟨n, rfl⟩ : ∃ n : Nat, x1 = n := ⟨x1.toNat, by omega⟩
        exact ⟨⟨x0, n, x2, x3⟩, ⟨by simpa using c0, by simpa [Nat.add_assoc] using c1, by simpa [Nat.add_assoc] using c2, by simpa [Nat.add_assoc] using c3⟩, by show n < M64; unfold M64; omega⟩
      obtain ⟨l, hl, hR⟩ := list_of len each
      refine ⟨l, .inr ⟨b, o, cap, by rw [hl], by omega, hcap, hb, fun i a ha => (hR i a ha).1⟩, fun a ha => ?_⟩
      obtain ⟨i, hi⟩ := List.getElem?_of_mem ha
      exact (hR i a hi).2
end
theorem ActsAt.len {W : World} {v : Value} {la : List ActM} (h : ActsAt W v la) : la.length ≤ 9223372036854775807 := by
  rcases h with ⟨-, rfl⟩ | ⟨_, _, _, _, h1, h2, _⟩
  · simp
  · omega
theorem ActsAt.below {W W' : World} {v : Value} {la : List ActM} (h : ActsAt W v la) (hb : Below W.heap.size W W') : ActsAt W' v la := by
  rcases h with h | ⟨b, o, cap, h1, h2, h3, h4, h5⟩
  · exact .inl h
  · refine .inr ⟨b, o, cap, h1, h2, h3, Nat.lt_of_lt_of_le h4 hb.size, fun i a ha => ?_⟩
    obtain ⟨c0, c1, c2, c3⟩ := h5 i a ha
    exact ⟨(hb.cell (p := ⟨b, _, none⟩) h4).trans c0, (hb.cell (p := ⟨b, _, none⟩) h4).trans c1, (hb.cell (p := ⟨b, _, none⟩) h4).trans c2, (hb.cell (p := ⟨b, _, none⟩) h4).trans c3⟩
theorem at_all (j : Int) (B G lab : Nat) (rs : List Reg) (hrs : rs.length ≤ 1000000) (w : World) (hBw : B ≤ w.heap.size) (h : IsG w B G lab rs) :
    Calls Try.prog 11 #[.pointer (some ⟨G, 0, none⟩), .int .i64 j] w (AtIs w B G (atR j rs lab)) := by
  by_cases hj : 0 ≤ j
  · exact at_any j hj B G lab rs hrs w hBw h
  · refine (at_neg _ j (by omega) w).mono ?_
    rintro e w' ⟨rfl, rfl⟩
    unfold atR
    rw [if_pos (by omega)]
    exact ⟨_, rfl, h, World.ownsRow_nil _ _ _ _, KeepsT.refl _ _, Below.refl _ _⟩

/-- The first label flows to the label, and to each that is kept. -/
def Low (own lab : Nat) (rs : List Reg) : Prop := flowsB own lab = true ∧ ∀ r ∈ rs, flowsB own r.was = true
theorem flows_up {a b c : Nat} (h : flowsB a b = true) : flowsB a (b ||| c) = true := by
  rw [flows_iff] at h ⊢
  intro i hi
  rw [Nat.testBit_or, h i hi]
  rfl
theorem flows_self (a : Nat) : flowsB a a = true := by simp [flowsB]
theorem Low.branch {own lab : Nat} {rs : List Reg} (h : Low own lab rs) (l : Nat) (j t : Int) : Low own (lab ||| l) (branchR rs lab j t) := by
  refine ⟨flows_up h.1, fun r hr => ?_⟩
  unfold branchR at hr
  split at hr
  · exact h.2 r hr
  · rcases List.mem_append.1 hr with hr | hr
    · exact h.2 r hr
    · have : r = ⟨j, t, lab⟩ := by simpa using hr
      rw [this]
      exact h.1
theorem Low.go {own : Nat} {j : Int} : ∀ (n : Nat) {lab : Nat} {rs : List Reg} (tags : List Int), Low own lab rs → Low own (atGo j n rs lab tags).2.1 (atGo j n rs lab tags).1
  | 0, _, _, _, h => h
  | n + 1, lab, rs, tags, h => by
    rcases last_split rs with rfl | ⟨pre, r, rfl⟩
    · rw [atGo_none]; exact h
    · by_cases hr : r.join = j
      · rw [atGo_go hr]
        exact Low.go n _ ⟨h.2 r (by simp), fun x hx => h.2 x (by simp [hx])⟩
      · rw [atGo_stop hr]; exact h
theorem Low.at {own lab : Nat} {rs : List Reg} (h : Low own lab rs) (j : Int) : Low own (atR j rs lab).2.1 (atR j rs lab).1 := by
  unfold atR
  split
  · exact h
  · exact Low.go _ _ h
theorem branchR_len (rs : List Reg) (lab : Nat) (j t : Int) : (branchR rs lab j t).length ≤ rs.length + 1 := by
  unfold branchR
  split
  · omega
  · simp
theorem branchR_pos (rs : List Reg) (lab : Nat) (j t : Int) : 0 < (branchR rs lab j t).length := by
  unfold branchR
  split
  · rename_i h
    unfold topAt at h
    cases rs with
    | nil => simp at h
    | cons _ _ => simp
  · simp
theorem atGo_len {j : Int} : ∀ (n : Nat) (lab : Nat) (rs : List Reg) (tags : List Int), (atGo j n rs lab tags).1.length ≤ rs.length
  | 0, _, _, _ => Nat.le_refl _
  | n + 1, lab, rs, tags => by
    rcases last_split rs with rfl | ⟨pre, r, rfl⟩
    · rw [atGo_none]; exact Nat.le_refl _
    · by_cases hr : r.join = j
      · rw [atGo_go hr]
        have := atGo_len (j := j) n r.was pre (tags ++ [r.tag])
        simp
        omega
      · rw [atGo_stop hr]; exact Nat.le_refl _
theorem atR_len (j : Int) (rs : List Reg) (lab : Nat) : (atR j rs lab).1.length ≤ rs.length := by
  unfold atR
  split
  · exact Nat.le_refl _
  · exact atGo_len _ _ _ _

set_option maxRecDepth 100000 in
set_option maxHeartbeats 1000000 in
/-- What stands behind the loop. -/
theorem guardLow_any (own : Nat) (hown : own < M64) (la : List ActM) (hl : ∀ a ∈ la, a.l < M64) (v : Value) (d p t : Int) (l : Nat) (hll : l < M64) (w : World) (hv : ActsAt w v la) :
    Calls Try.prog 4 #[.int .u64 own, v, .agg #[.int .i64 d, .int .u64 l, .int .i64 p, .int .i64 t]] w fun e w' => e = .returned (.bool true) ∧ Below w.heap.size w w' := by
  have HA := fun W => Lib.hid (awake_any W)
  have HN := fun W => Lib.hid (new_any own W)
  have hlen := hv.len
  have HL := Lib.hid hl
  have HV := Lib.hid (fun (W : World) (hb : Below w.heap.size w W) => hv.below hb)
  clear hl
  obtain ⟨av, cap, rfl⟩ : ∃ av cap, v = .slice av la.length cap := by
    rcases hv with ⟨rfl, rfl⟩ | ⟨b, o, cap, rfl, _⟩
    · exact ⟨none, 0, rfl⟩
    · exact ⟨_, cap, rfl⟩
  clear hv
  · by_cases hgt : 200 < la.length
    · go_enter Try.func4, Try.ntmps4
      go_wp2_with fail
      with_reducible refine ((HA _).out).mono ?_
      rintro e w1 ⟨rfl, hb1⟩
      go_wp2
      go_ret
      exact ⟨rfl, ((Below.refl _ w).alloc (Nat.le_refl _) _).trans (hb1.mono (by simp))⟩
    · have hle : la.length ≤ 200 := by omega
      clear hgt
      go_enter Try.func4, Try.ntmps4
      go_wp2_with fail
      with_reducible refine ((HA _).out).mono ?_
      rintro e w1 ⟨rfl, hb1⟩
      have hbox : Has w1 w.heap.size 33 [.int .i64 d, .int .u64 l, .int .i64 p, .int .i64 t] := (Has.new w _ _).keepsT (KeepsT.below hb1 []) (by simp)
      have hbb : Below w.heap.size w w1 := ((Below.refl _ w).alloc (Nat.le_refl _) _).trans (hb1.mono (by simp))
      have hs1 : w.heap.size + 1 ≤ w1.heap.size := by have := hb1.size; simpa using this
      clear hb1
      go_wp2_with fail
      with_reducible refine ((HN _).out).mono ?_
      rintro e w2 ⟨rfl, hw2⟩
      have hI2 : IsG w2 (w.heap.size + 1) w1.heap.size own [] := by rw [← hw2]; exact isG_new hs1 hown
      have hbox2 : Has w2 w.heap.size 33 [.int .i64 d, .int .u64 l, .int .i64 p, .int .i64 t] := by rw [← hw2]; exact hbox.keepsT ((KeepsT.refl [] _).alloc _) (by simp)
      have hb2 : Below w.heap.size w w2 := by rw [← hw2]; exact hbb.alloc (by omega) _
      have HS1 : w.heap.size + 1 ≤ w2.heap.size := by rw [← hw2]; simp; omega
      clear hw2 hbb hbox
      have HI2 := Lib.hid hI2
      have HBX := Lib.hid hbox2
      have HB2 := Lib.hid hb2
      clear hI2 hbox2 hb2
      go_wp2
      generalize w1.heap.size = G at HI2 ⊢
      go_loopw [22] (fun i wr => ∃ (k lab : Nat) (rs : List Reg), i = .int .i64 k ∧ k ≤ la.length ∧ IsG wr (w.heap.size + 1) G lab rs ∧ Below (w.heap.size + 1) w2 wr ∧ Low own lab rs ∧ rs.length ≤ k) (fun i _ => la.length - (intOf i).toNat)
      case atStart => exact ⟨0, own, [], rfl, by omega, HI2.out, Below.refl _ _, ⟨flows_self own, fun _ h => by cases h⟩, Nat.le_refl _⟩
      case round =>
        obtain ⟨k, lab, rs, rfl, hk, hI, hB, hLow, hrk⟩ := hrel
        by_cases hlt : k < la.length
        · have hbw : Below w.heap.size w wr := HB2.out.trans (hB.mono (by omega))
          have hszr : w.heap.size + 1 ≤ wr.heap.size := Nat.le_trans HS1 hB.size
          obtain ⟨b, o, rfl, hcells⟩ : ∃ b o, av = some ⟨b, o, none⟩ ∧ ActCells wr b o k la[k] := by
            rcases HV.out wr hbw with ⟨_, h⟩ | ⟨b, o, _, h, _, _, _, hc⟩
            · rw [h] at hlt
              simp at hlt
            · injection h with h4 h5 h6
              exact ⟨b, o, h4, hc k _ (List.getElem?_eq_getElem hlt)⟩
          have hal := HL.out la[k] (List.getElem_mem hlt)
          obtain ⟨⟨ad, an, ap, at'⟩, hx⟩ : ∃ x, la[k] = x := ⟨_, rfl⟩
          rw [hx] at hcells hal
          clear hx
          obtain ⟨c0, c1, c2, c3⟩ := hcells
          simp only at c0 c1 c2 c3 hal
          have hblt : b < wr.heap.size := World.block_lt_of_cell? wr _ c0
          have hrs : rs.length ≤ 1000000 := by omega
          have hixx : (k : Int) < (la.length : Int) := by omega
          by_cases hd : ad = 0
          · subst hd
            have HBr := Lib.hid (branch_any ap at' an hal (w.heap.size + 1) G lab rs hrs (wr.alloc (.cells #[.int .i64 0, .int .u64 (an : Int), .int .i64 ap, .int .i64 at'] 33)) (by simp; omega) (hI.alloc _))
            have HI := Lib.hid hI
            have HB := Lib.hid hB
            have HLw := Lib.hid hLow
            clear hI hB hLow hbw
            go_wp2_with fail
            with_reducible refine (HBr.out).mono ?_
            rintro e w4 ⟨rfl, hI4, hk4, hb4⟩
            obtain ⟨lab4, rs4, hI4, hL4, hr4⟩ : ∃ lab4 rs4, IsG w4 (w.heap.size + 1) G lab4 rs4 ∧ Low own lab4 rs4 ∧ rs4.length ≤ k + 1 := ⟨_, _, hI4, HLw.out.branch _ _ _, Nat.le_trans (branchR_len _ _ _ _) (by omega)⟩
            have hB4 : Below (w.heap.size + 1) w2 w4 := (HB.out.alloc hszr _).trans hb4
            have hm4 : lab4 < M64 := by obtain ⟨_, _, _, _, h, _⟩ := hI4; exact h
            have HP := Lib.hid (pc_of hI4)
            have HF := fun W => Lib.hid (refFlows_any own lab4 hown hm4 W)
            rw [hL4.1] at HF
            have HI4 := Lib.hid hI4
            have HB4 := Lib.hid hB4
            have HL4 := Lib.hid hL4
            clear hI4 hB4 hL4 hk4 hb4
            go_wp2_with fail
            with_reducible refine (HP.out).mono ?_
            rintro e w5 ⟨rfl, hw⟩
            subst hw
            go_wp2_with fail
            with_reducible refine ((HF _).out).mono ?_
            rintro e w5 ⟨rfl, hw⟩
            subst hw
            go_wp2
            go_roundw
            case rel => exact ⟨k + 1, lab4, rs4, by go_num, by omega, HI4.out, HB4.out, HL4.out, hr4⟩
            case measure => simp [intOf]; omega
          · have hdb : (ad == 0) = false := by simpa using hd
            have HBr := Lib.hid (at_all ap (w.heap.size + 1) G lab rs hrs (wr.alloc (.cells #[.int .i64 ad, .int .u64 (an : Int), .int .i64 ap, .int .i64 at'] 33)) (by simp; omega) (hI.alloc _))
            have HI := Lib.hid hI
            have HB := Lib.hid hB
            have HLw := Lib.hid hLow
            clear hI hB hLow hbw hd
            go_wp2_with fail
            with_reducible refine (HBr.out).mono ?_
            rintro e w4 ⟨vt, rfl, hI4, -, hk4, hb4⟩
            obtain ⟨lab4, rs4, hI4, hL4, hr4⟩ : ∃ lab4 rs4, IsG w4 (w.heap.size + 1) G lab4 rs4 ∧ Low own lab4 rs4 ∧ rs4.length ≤ k + 1 := ⟨_, _, hI4, HLw.out.at _, Nat.le_trans (atR_len _ _ _) (by omega)⟩
            have hB4 : Below (w.heap.size + 1) w2 w4 := (HB.out.alloc hszr _).trans hb4
            have hm4 : lab4 < M64 := by obtain ⟨_, _, _, _, h, _⟩ := hI4; exact h
            have HP := Lib.hid (pc_of hI4)
            have HF := fun W => Lib.hid (refFlows_any own lab4 hown hm4 W)
            rw [hL4.1] at HF
            have HI4 := Lib.hid hI4
            have HB4 := Lib.hid hB4
            have HL4 := Lib.hid hL4
            clear hI4 hB4 hL4 hk4 hb4
            go_wp2_with fail
            with_reducible refine (HP.out).mono ?_
            rintro e w5 ⟨rfl, hw⟩
            subst hw
            go_wp2_with fail
            with_reducible refine ((HF _).out).mono ?_
            rintro e w5 ⟨rfl, hw⟩
            subst hw
            go_wp2
            go_roundw
            case rel => exact ⟨k + 1, lab4, rs4, by go_num, by omega, HI4.out, HB4.out, HL4.out, hr4⟩
            case measure => simp [intOf]; omega
        · obtain rfl : k = la.length := by omega
          have hszr : w.heap.size + 1 ≤ wr.heap.size := Nat.le_trans HS1 hB.size
          have hbox : Has wr w.heap.size 33 [.int .i64 d, .int .u64 l, .int .i64 p, .int .i64 t] := HBX.out.below hB (by omega)
          have b1 := hbox.cell 1
          have b2 := hbox.cell 2
          have b3 := hbox.cell 3
          have hltb := hbox.lt
          simp at b1 b2 b3
          have hm4 : lab < M64 := by obtain ⟨_, _, _, _, h, _⟩ := hI; exact h
          have HP := Lib.hid (pc_of hI)
          have HBr := Lib.hid (branch_any p t l hll (w.heap.size + 1) G lab rs (by omega) wr hszr hI)
          have HBw := Lib.hid (HB2.out.trans (hB.mono (by omega)))
          have hjl := or_lt hm4 hll
          have HBX2 := Lib.hid hbox
          clear hI hB hLow hbox
          go_wp2_with fail
          with_reducible refine (HP.out).mono ?_
          rintro e w5 ⟨rfl, hw⟩
          subst hw
          go_wp2_with fail
          with_reducible refine (HBr.out).mono ?_
          rintro e w4 ⟨rfl, hI4, hk4, hb4⟩
          have hpos := branchR_pos rs lab (max p (-1)) t
          generalize branchR rs lab (max p (-1)) t = rs4 at hI4 hpos
          have hdp : decide (0 < (rs4.length : Int)) = true := decide_eq_true (by omega)
          have hbox4 := HBX2.out.below hb4 (by omega)
          clear b1 b2 b3
          have b1 := hbox4.cell 1
          have hlt4 := hbox4.lt
          simp at b1
          have HI4 := Lib.hid hI4
          have HB4 := Lib.hid hb4
          clear hI4 hk4 hb4 hbox4
          go_wp2
          go_quiet ((first | (go_at_call 13; exact quiet_left (pc_of (HI4.out.keeps ((KeepsT.refl [] w4).drewN _) (by simp) (by simp)))) | (go_at_call 14; exact quiet_left (deep_of (HI4.out.keeps ((KeepsT.refl [] w4).drewN _) (by simp) (by simp)))) | (go_at_call 17; exact quiet_left (refJoin_any lab l hm4 hll _))))
          go_wp2
          go_ret
          exact ⟨by simp, below_drewN (HBw.out.trans (HB4.out.mono (by omega))) _⟩
theorem guardLow_u {H : Type} {enc : TypeId × Value → H} (l : Int) (hl : 0 ≤ l ∧ l ≤ 18446744073709551615) {r : Reach} {b0 : Nat} (v1 v2 : Value) {d : DataW H} {ps : List MemPlace} {sp : Nat → Bool} (w : World) (g1 : Value.okWide Try.prog w r b0 24 v1)
    (h1 : DataW.Trod enc Try.prog w 0 sp true 24 v1 d ps) (g2 : Value.okWide Try.prog w r b0 33 v2) :
    Calls Try.prog 4 #[.int .u64 l, v1, v2] w fun e w' => e = .returned (.bool true) ∧ Below w.heap.size w w' := by
  obtain ⟨d, al, p, t, rfl, hal⟩ := open_act g2
  obtain ⟨n, rfl⟩ : ∃ n : Nat, l = n := ⟨l.toNat, by omega⟩
  obtain ⟨la, hv, hla⟩ := open_acts g1 h1
  exact guardLow_any n (by unfold M64; omega) la hla v1 d p t al hal w hv
end GuardD
end Go.Proofs.Ytnlblmdmhfahpaa
