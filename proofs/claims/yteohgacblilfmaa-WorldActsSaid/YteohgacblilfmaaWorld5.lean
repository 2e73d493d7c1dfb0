/- What was put out, how far was read; the example; a world that nobody made. -/
import Derived.Test.YteohgacblilfmaaWorld4
namespace Go.Proofs.Yteohgacblilfmaa
open Go.RowKit ObjM Shell Go.ChangeShapes Go.WideShapes
namespace WorldD
open LabelM LabelD TraceD

def EventsIs (w : World) (ev : List Ev) (e : Ending) (w' : World) : Prop :=
  ∃ av cp, e = .returned (.slice av ev.length cp) ∧ w'.ownsRow w.heap.size 65 4 (.slice av ev.length cp) ev.length (rowE ev) ∧ Below w.heap.size w w'
set_option maxHeartbeats 1000000 in
theorem events_any (B G : Nat) (l : List Ch) (ev : List Ev) (hev : ev.length ≤ 2600000000000) (w : World) (hI : IsW w B G l ev) : Calls Try.prog 14 #[.pointer (some ⟨G, 0, none⟩)] w (EventsIs w ev) := by
  obtain ⟨sv, hG, hO, hBG, hl8, hok⟩ := hI
  have hlt := hG.lt
  have d24 : w.cell? ⟨G, 24, none⟩ = some sv := by
    rw [hG.cell, List.getElem?_append_right (by rw [rowC_len]; omega), rowC_len, hl8]
    rfl
  have HC := Lib.hid (cloneE_any sv ev hev w (evs_of_own hO))
  obtain ⟨av, cp, rfl⟩ := own_slice hO
  clear hG hO hok
  go_enter Try.func14, Try.ntmps14
  go_wp2_with fail
  refine (HC.out).mono ?_
  rintro e w1 ⟨u, rfl, hu, hb⟩
  obtain ⟨av, cp, rfl⟩ := own_slice hu
  have HU := Lib.hid hu
  have HB := Lib.hid hb
  clear hu hb
  go_wp2
  go_ret
  exact ⟨_, _, rfl, HU.out, HB.out⟩
set_option maxHeartbeats 1000000 in
theorem events_nil (w : World) : Calls Try.prog 14 #[.pointer none] w fun e w' => e = .returned (.slice none 0 0) ∧ w = w' := by
  go_enter Try.func14, Try.ntmps14
  go_wp2
  go_ret
  exact ⟨rfl, rfl⟩
def zeros8 : Value := .agg #[.int .i64 0, .int .i64 0, .int .i64 0, .int .i64 0, .int .i64 0, .int .i64 0, .int .i64 0, .int .i64 0]
set_option maxRecDepth 100000 in
set_option maxHeartbeats 1000000 in
theorem places_nil (w : World) : Calls Try.prog 15 #[.pointer none] w fun e w' => e = .returned zeros8 ∧ Below w.heap.size w w' := by
  have hA : ∀ o p : Go.Obj, Below w.heap.size w ((w.alloc o).alloc p) := fun o p => ((Below.refl _ w).alloc (Nat.le_refl _) o).alloc (by simp) p
  go_enter Try.func15, Try.ntmps15
  go_wp2
  refine bodyPost_ret (v := zeros8) (by simp [results, Try.results15, go_sem, zeros8]) rfl ⟨rfl, ?_⟩
  repeat (first | exact hA _ _ | refine Below.setCell ?_ (by simp) _)

def ex_a (n : Nat) (j : Nat) : Option Addr := if j = 0 then some ⟨n, 0, none⟩ else none
def ex_z (j : Nat) : List Int := if j = 0 then [7] else []
def ex_q (j : Nat) : Nat := if j = 0 then 1 else 0
theorem flows01 : flowsB 0 1 = true := by decide
theorem flows10 : flowsB (0 ||| 1) 0 = false := by decide
theorem flows11 : flowsB (0 ||| 1) 1 = true := by decide

set_option maxRecDepth 100000 in
set_option maxHeartbeats 2000000 in
theorem awake_any (w : World) : Calls Try.prog 6 #[] w fun e w' => e = .returned (.bool true) ∧ Below w.heap.size w w' := by
  have hH := Has.new w 2 [.int .i64 7]
  have HN := Lib.hid (new_any 1 0 0 0 0 0 0 0 (by intro j; match j with | 0 => decide | 1 => decide | 2 => decide | 3 => decide | 4 => decide | 5 => decide | 6 => decide | 7 => decide | j + 8 => exact (by decide : (0 : Nat) < M64)) (ex_a w.heap.size) ex_z ex_q (by intro j; unfold ex_z; split <;> simp) (w.alloc (.cells #[.int .i64 7] 2)) (by
    intro j hj
    rcases lt8 hj with rfl | rfl | rfl | rfl | rfl | rfl | rfl | rfl
    · refine .inr ⟨w.heap.size, 0, 1, rfl, by simp [ex_z], by omega, hH.lt, fun i x hx => ?_⟩
      match i, hx with
      | 0, hx => simp [ex_z] at hx; subst hx; exact hH.cell 0
      | i + 1, hx => simp [ex_z] at hx
    all_goals exact .inl ⟨rfl, rfl⟩))
  have h0 : Below w.heap.size w (w.alloc (.cells #[.int .i64 7] 2)) := (Below.refl _ w).alloc (Nat.le_refl _) _
  have H0 := Lib.hid h0
  clear h0 hH
  go_enter Try.func6, Try.ntmps6
  go_wp2_with fail
  refine (HN.out).mono ?_
  rintro e w1 ⟨G, l, rfl, hI, hl, hb⟩
  obtain ⟨sv, hG, hO, hBG, hl8, hok⟩ := id hI
  obtain ⟨c0, hc0⟩ : ∃ c, l[0]? = some c := ⟨_, List.getElem?_eq_getElem (by omega)⟩
  obtain ⟨c1, hc1⟩ : ∃ c, l[1]? = some c := ⟨_, List.getElem?_eq_getElem (by omega)⟩
  obtain ⟨m0, x0, n0⟩ := hl 0 c0 hc0
  obtain ⟨m1, x1, n1⟩ := hl 1 c1 hc1
  have hr : readC c0 0 = ((2, 7, 1, 0), { c0 with n := 1 }) := by
    have e1 : c0.m = 1 := m0
    have e2 : c0.xs = [7] := x0
    unfold readC
    rw [e1, flows01, n0, e2]
    rfl
  have HR := Lib.hid (read_any _ G l [] 0 0 (by decide) (by decide) c0 hc0 w1 hb.size hI)
  rw [hr] at HR
  have HS1 := Lib.hid (H0.out.trans (hb.mono (by simp)))
  have HC0 := Lib.hid (And.intro hc0 m0)
  have HC1 := Lib.hid (And.intro hc1 m1)
  have HL8 := Lib.hid hl8
  have HBS := Lib.hid hb
  clear hI hl hb hG hO hBG hok hc0 hc1 m0 x0 n0 m1 x1 n1 hr hl8 HN
  go_wp2_with fail
  refine (HR.out).mono ?_
  rintro e w2 ⟨rfl, hI2, -, hb2⟩
  simp only [valA]
  obtain ⟨sv, hG, hO, hBG, hl8, hok⟩ := id hI2
  have h1 : (l.set 0 { c0 with n := 1 })[1]? = some c1 := by rw [List.getElem?_set_ne (by decide)]; exact HC1.out.1
  have h2 : (l.set 0 { c0 with n := 1 })[0]? = some { c0 with n := 1 } := by rw [List.getElem?_set_self (by have := HL8.out; omega)]
  have e0 : c0.m = 1 := HC0.out.2
  have e1 : c1.m = 0 := HC1.out.2
  have HW1 := Lib.hid (fun (W : World) (h : Below w2.heap.size w2 W) => write_no G _ sv 0 1 1 (by decide) (by decide) c1 h1 (by decide) (by rw [e1]; decide) (by rw [e1]; exact flows10) 2 7 ⟨#[]⟩ W (hG.keepsT (KeepsT.below h []) (by simp)))
  simp only [World.size_alloc] at hI2
  have HW2 := Lib.hid (fun (W : World) (hs : w.heap.size + 1 ≤ W.heap.size) (hi : IsW W (w.heap.size + 1) G _ []) => write_ok (w.heap.size + 1) G _ [] (by simp) 0 0 1 (by decide) (by decide) _ h2 (by decide) (by show flowsB (0 ||| 1) c0.m = true; rw [e0]; exact flows11) 2 7 ⟨#[]⟩ W hs hi)
  have HI2 := Lib.hid hI2
  have HB2 := Lib.hid hb2
  have hbx := Has.new w2 39 [.int .i64 2, .int .i64 7, .string ⟨#[]⟩, .int .u64 1]
  have HBX := Lib.hid hbx
  have HA2 := Lib.hid ((Below.refl w2.heap.size w2).alloc (Nat.le_refl _) (.cells #[.int .i64 2, .int .i64 7, .string ⟨#[]⟩, .int .u64 1] 39))
  simp only [World.size_alloc] at hb2
  have hz1 : w.heap.size + 1 ≤ w1.heap.size := by have := HBS.out.size; simpa using this
  have hz2 : w.heap.size + 1 ≤ w2.heap.size := Nat.le_trans hz1 hb2.size
  have S2 := Lib.hid (hb2.trans (HA2.out.mono hz2))
  have HE := Lib.hid (fun (W : World) (l : List Ch) (ev : List Ev) (h : IsW W (w.heap.size + 1) G l ev) (hv : ev.length ≤ 2600000000000) => events_any (w.heap.size + 1) G l ev hv W h)
  clear hI2 hb2 hG hO hBG hl8 hok h1 h2 e0 e1 hbx
  go_wp2_with fail
  refine (HW1.out _ HA2.out).mono ?_
  rintro e w3 ⟨rfl, hb3⟩
  have hbx3 := HBX.out.below hb3 HBX.out.lt
  have b0 := hbx3.cell 0
  have b1 := hbx3.cell 1
  have b2 := hbx3.cell 2
  have b3 := hbx3.cell 3
  have hl3 := hbx3.lt
  simp at b0 b1 b2 b3
  have hI3 := ((HI2.out.below HA2.out).below hb3)
  have hz3 : w.heap.size + 1 ≤ w3.heap.size := by have := hb3.size; simp at this; omega
  have S3 := Lib.hid (S2.out.trans (hb3.mono (by simp; omega)))
  have HW3 := Lib.hid (HW2.out w3 hz3 hI3)
  clear hbx3 hI3 hb3
  go_wp2_with fail
  refine (HW3.out).mono ?_
  rintro e w4 ⟨rfl, hI4, -, hb4⟩
  have hz4 : w.heap.size + 1 ≤ w4.heap.size := Nat.le_trans hz3 hb4.size
  have HE4 := Lib.hid (HE.out w4 _ _ hI4 (by simp))
  have S4 := Lib.hid (S3.out.trans hb4)
  clear b0 b1 b2 b3 hl3 hI4 hb4
  go_wp2_with fail
  refine (HE4.out).mono ?_
  rintro e w5 ⟨av, cp, rfl, -, hb5⟩
  have S5 := Lib.hid (S4.out.trans (hb5.mono hz4))
  clear hb5
  go_wp2
  go_ret
  exact ⟨by first | rfl | (simp; done), H0.out.trans ((HBS.out.trans (S5.out.mono (Nat.le_of_eq (by simp)))).mono (by simp))⟩
theorem eq8 (W : World) : Sem.run Try.prog (binOp BinOp.eql 34 zeros8 zeros8) W = .ok (.bool true) W := by kernel_rfl

set_option maxRecDepth 100000 in
set_option maxHeartbeats 1000000 in
theorem worldNone_any (d k kd n : Int) (pc lab : Nat) (s : ByteArray) (w : World) :
    Calls Try.prog 5 #[.agg #[.int .i64 d, .int .u64 (pc : Int), .int .i64 k, .int .i64 kd, .int .i64 n, .string s, .int .u64 (lab : Int)]] w fun e w' => e = .returned (.bool true) ∧ Below w.heap.size w w' := by
  have HA := fun W => Lib.hid (awake_any W)
  have H1 := fun W => Lib.hid (read_nil pc k W)
  have H2 := fun W => Lib.hid (write_nil pc k kd n lab s W)
  have H3 := fun W => Lib.hid (events_nil W)
  have H4 := fun W => Lib.hid (places_nil W)
  have he := eq8
  simp only [zeros8] at he
  go_enter Try.func5, Try.ntmps5
  go_wp2_with fail
  with_reducible refine ((HA _).out).mono ?_
  rintro e w1 ⟨rfl, hb1⟩
  have hbox := (Has.new w 41 [.int .i64 d, .int .u64 (pc : Int), .int .i64 k, .int .i64 kd, .int .i64 n, .string s, .int .u64 (lab : Int)]).below hb1 (by simp)
  have b1 := hbox.cell 1
  have b2 := hbox.cell 2
  have hlt := hbox.lt
  simp at b1 b2
  have HB := Lib.hid ((Below.refl w.heap.size w).alloc (Nat.le_refl _) (.cells #[.int .i64 d, .int .u64 (pc : Int), .int .i64 k, .int .i64 kd, .int .i64 n, .string s, .int .u64 (lab : Int)] 41) |>.trans (hb1.mono (by simp)))
  have HBox := Lib.hid hbox
  clear hbox hb1
  go_wp2_with fail
  refine ((H1 _).out).mono ?_
  rintro e w2 ⟨rfl, hb2⟩
  simp only [valA]
  have hbox := HBox.out.below hb2 HBox.out.lt
  have hbx := hbox.below ((Below.refl w2.heap.size w2).alloc (Nat.le_refl _) (.cells #[.int .i64 0, .int .i64 0, .string ⟨#[]⟩, .int .u64 0] 39)) hbox.lt
  have HB2 := Lib.hid (HB.out.trans (hb2.mono HB.out.size))
  clear b1 b2 hlt hb2 hbox
  have b1 := hbx.cell 1
  have b2 := hbx.cell 2
  have b3 := hbx.cell 3
  have b4 := hbx.cell 4
  have b5 := hbx.cell 5
  have b6 := hbx.cell 6
  have hlt := hbx.lt
  simp at b1 b2 b3 b4 b5 b6 hlt
  clear hbx
  go_wp2_with fail
  refine ((H2 _).out).mono ?_
  rintro e w3 ⟨rfl, hb3⟩
  have HB3 := Lib.hid ((HB2.out.alloc HB2.out.size _).trans (hb3.mono (by have := HB2.out.size; simp; omega)))
  clear b1 b2 b3 b4 b5 b6 hlt hb3
  go_wp2_with fail
  with_reducible refine ((H3 _).out).mono ?_
  rintro e w4 ⟨rfl, hw⟩
  subst hw
  go_wp2_with fail
  refine ((H4 _).out).mono ?_
  rintro e w4 ⟨rfl, hb4⟩
  have HB4 := Lib.hid (HB3.out.trans (hb4.mono HB3.out.size))
  clear hb4
  simp only [zeros8]
  go_wp2
  go_ret
  exact ⟨by first | rfl | (simp; done), HB4.out⟩

theorem act_fields : ∃ fs, Try.prog.underlying 41 = some (.struct fs) ∧ Try.prog.cellTypes Try.prog.depth 41 = some [3, 23, 3, 3, 2, 9, 23] ∧ Try.prog.cellsOf 41 = 7 := ⟨_, Try.underlying41, by kernel_rfl, by kernel_rfl⟩
/-- An Act by value. -/
theorem open_act {W : World} {r : Reach} {b0 : Nat} {v : Value} (h : Value.okWide Try.prog W r b0 41 v) :
    ∃ (d k kd n : Int) (pc lab : Nat) (s : ByteArray), v = .agg #[.int .i64 d, .int .u64 (pc : Int), .int .i64 k, .int .i64 kd, .int .i64 n, .string s, .int .u64 (lab : Int)] ∧ pc < M64 ∧ lab < M64 := by
  obtain ⟨fs, h1, h2, h3⟩ := act_fields
  obtain ⟨cs, rfl, hl, hc⟩ := Shell.agg_cells h1 h2 h
  rw [h3] at hl
  match cs, hl, hc with
  | [c0, c1, c2, c3, c4, c5, c6], _, hc =>
    obtain ⟨u0, e0, o0⟩ := hc 0 c0 rfl
    obtain ⟨u1, e1, o1⟩ := hc 1 c1 rfl
    obtain ⟨u2, e2, o2⟩ := hc 2 c2 rfl
    obtain ⟨u3, e3, o3⟩ := hc 3 c3 rfl
    obtain ⟨u4, e4, o4⟩ := hc 4 c4 rfl
    obtain ⟨u5, e5, o5⟩ := hc 5 c5 rfl
    obtain ⟨u6, e6, o6⟩ := hc 6 c6 rfl
    simp at e0 e1 e2 e3 e4 e5 e6
    subst e0 e1 e2 e3 e4 e5 e6
    obtain ⟨d, rfl, -⟩ := Shell.ok_int Try.underlying3 o0
    obtain ⟨l, rfl, hl⟩ := Shell.ok_int Try.underlying23 o1
    obtain ⟨k, rfl, -⟩ := Shell.ok_int Try.underlying3 o2
    obtain ⟨kd, rfl, -⟩ := Shell.ok_int Try.underlying3 o3
    obtain ⟨n, rfl, -⟩ := Shell.ok_int Try.underlying2 o4
    obtain ⟨s, rfl, -⟩ := Shell.ok_string Try.underlying9 o5
    obtain ⟨l2, rfl, hl2⟩ := Shell.ok_int Try.underlying23 o6
    have hl' := Shell.has_u64 hl
    have hl2' := Shell.has_u64 hl2
    obtain ⟨pc, rfl⟩ : ∃ n : Nat, l = n := ⟨l.toNat, by omega⟩
    obtain ⟨lab, rfl⟩ : ∃ n : Nat, l2 = n := ⟨l2.toNat, by omega⟩
    exact ⟨d, k, kd, n, pc, lab, s, rfl, by unfold M64; omega, by unfold M64; omega⟩
theorem worldNone_u {b0 : Nat} (v : Value) (w : World) (h : Value.okWide Try.prog w .any b0 41 v) :
    Calls Try.prog 5 #[v] w fun e w' => e = .returned (.bool true) ∧ Below w.heap.size w w' := by
  obtain ⟨d, k, kd, n, pc, lab, s, rfl, -, -⟩ := open_act h
  exact worldNone_any d k kd n pc lab s w
end WorldD
end Go.Proofs.Yteohgacblilfmaa
