/- Chapter 4's example. -/
import Derived.Test.YtpmbbkhhnkhcbaaTab6
namespace Go.Proofs.Ytpmbbkhhnkhcbaa
open Go.RowKit ObjM Go.Maps
namespace TabD
open LabelM LabelD ValD

def kA : V := ⟨3, 0, ⟨#[97]⟩, 0⟩
def five : V := ⟨2, 5, ⟨#[]⟩, 1⟩
def six : V := ⟨2, 6, ⟨#[]⟩, 0⟩
def F1 : List Fd := [(kA, five)]
def F2 : List Fd := [(kA, six)]
theorem okA : VOk kA := ⟨⟨by decide, by decide⟩, ⟨by decide, by decide⟩, by decide, by decide⟩
theorem pl1 : placeOf F1 kA = some 0 := by decide +kernel
theorem pl2 : placeOf F2 kA = some 0 := by decide +kernel
theorem keyA : keyB kA = true := by decide +kernel
theorem ok5 : VOk five := ⟨⟨by decide, by decide⟩, ⟨by decide, by decide⟩, by decide, by decide⟩
theorem ok6 : VOk six := ⟨⟨by decide, by decide⟩, ⟨by decide, by decide⟩, by decide, by decide⟩
theorem isT_new {w : World} {T lab : Nat} (hT : Has w T 66 [.int .u64 (lab : Int), .slice none 0 0, .map none, .slice none 0 0, .map none]) (B : Nat) (hB : B ≤ T) (hl : lab < M64) : IsT w B T lab [] (.slice none 0 0) none (.slice none 0 0) (.map none) :=
  ⟨hT, World.ownsRow_nil _ _ _ _, rfl, hB, hl, by simp, by simp⟩
theorem fits_T {B T lab : Nat} {fs : List Fd} {fv sv : Value} {pm : Option Nat} (s : ByteArray) (hs : s.size ≤ 140737488355328) (kd : Int) (w : World) (h : IsT w B T lab fs fv pm sv (.map none)) : ∀ W, Below w.heap.size w W → Calls Try.prog 34 #[.pointer (some ⟨T, 0, none⟩), .string s, .int .i64 kd] W fun e w' => e = .returned (.bool true) ∧ Below W.heap.size W w' :=
  fun W hb => fits_none T s hs kd _ _ _ _ W (h.below hb).1
theorem aw1 (B T : Nat) (w : World) (h : IsT w B T 0 [] (.slice none 0 0) none (.slice none 0 0) (.map none)) : Calls Try.prog 15 #[.pointer (some ⟨T, 0, none⟩), .int .u64 1, .agg #[.int .i64 3, .int .i64 0, .string ⟨#[97]⟩, .int .u64 0], .agg #[.int .i64 2, .int .i64 5, .string ⟨#[]⟩, .int .u64 1]] w (PutOut w 40) :=
  put_new_no B T 0 [] _ _ _ _ 1 (by decide) kA five okA ok5 keyA rfl w h (fits_T _ (by decide) _ w h) rfl (by decide)
theorem aw2 (B T : Nat) (w : World) (h : IsT w B T 0 [] (.slice none 0 0) none (.slice none 0 0) (.map none)) (hB : B ≤ w.heap.size) : Calls Try.prog 15 #[.pointer (some ⟨T, 0, none⟩), .int .u64 0, .agg #[.int .i64 3, .int .i64 0, .string ⟨#[97]⟩, .int .u64 0], .agg #[.int .i64 2, .int .i64 5, .string ⟨#[]⟩, .int .u64 1]] w (PutDid w B T 0 F1 (.slice none 0 0) none (.slice none 0 0) (.map none)) :=
  put_new_first B T 0 [] _ _ _ _ 0 (by decide) kA five okA ok5 keyA rfl w h (fits_T _ (by decide) _ w h) hB rfl (by decide)
theorem aw3 (B T : Nat) (fv : Value) (pm : Option Nat) (w : World) (h : IsT w B T 0 F1 fv pm (.slice none 0 0) (.map none)) (hB : B ≤ w.heap.size) : Calls Try.prog 15 #[.pointer (some ⟨T, 0, none⟩), .int .u64 0, .agg #[.int .i64 3, .int .i64 0, .string ⟨#[97]⟩, .int .u64 0], .agg #[.int .i64 2, .int .i64 6, .string ⟨#[]⟩, .int .u64 0]] w (PutDid w B T 0 F2 fv pm (.slice none 0 0) (.map none)) :=
  (put_found B T 0 F1 _ _ _ _ 0 (by decide) kA six okA ok6 keyA rfl w h (fits_T _ (by decide) _ w h) hB 0 pl1 (by intro f hf; cases hf; decide)).mono fun e w' ⟨f, hf, hd⟩ => by cases hf; exact hd
theorem aw4 (B T : Nat) (fv : Value) (pm : Option Nat) (w : World) (h : IsT w B T 0 F2 fv pm (.slice none 0 0) (.map none)) : Calls Try.prog 15 #[.pointer (some ⟨T, 0, none⟩), .int .u64 1, .agg #[.int .i64 3, .int .i64 0, .string ⟨#[97]⟩, .int .u64 0], .agg #[.int .i64 2, .int .i64 5, .string ⟨#[]⟩, .int .u64 1]] w (PutOut w 40) :=
  put_found_no B T 0 F2 _ _ _ _ 1 (by decide) kA five okA ok5 keyA rfl w h (fits_T _ (by decide) _ w h) 0 pl2 (by intro f hf; cases hf; decide)
theorem aw5 (B T : Nat) (fv : Value) (pm : Option Nat) (w : World) (h : IsT w B T 0 F2 fv pm (.slice none 0 0) (.map none)) : Calls Try.prog 14 #[.pointer (some ⟨T, 0, none⟩), .agg #[.int .i64 3, .int .i64 0, .string ⟨#[97]⟩, .int .u64 0]] w (fun e w' => e = .returned (.agg #[.int .i64 2, .int .i64 6, .string ⟨#[]⟩, .int .u64 0]) ∧ Below w.heap.size w w') :=
  get_found B T 0 F2 _ _ _ _ kA okA keyA w h 0 pl2 (kA, six) rfl
theorem aw6 (B T : Nat) (fv : Value) (pm : Option Nat) (w : World) (h : IsT w B T 0 F2 fv pm (.slice none 0 0) (.map none)) : Calls Try.prog 21 #[.pointer (some ⟨T, 0, none⟩)] w (fun e w' => e = .returned (.int .i64 1) ∧ w = w') := by
  obtain ⟨av, cap, rfl⟩ := own_slice h.2.1
  exact tlen_any T _ _ 1 _ _ w h.1

set_option maxRecDepth 100000 in
set_option maxHeartbeats 4000000 in
theorem awake_any (w : World) : Calls Try.prog 8 #[] w fun e w' => e = .returned (.bool true) ∧ Below w.heap.size w w' := by
  have HN := Lib.hid (tnew_any 0 w)
  have H1 := Lib.hid (fun W h => aw1 w.heap.size w.heap.size W h)
  have H2 := Lib.hid (fun W h hB => aw2 w.heap.size w.heap.size W h hB)
  have H3 := Lib.hid (fun fv pm W h hB => aw3 w.heap.size w.heap.size fv pm W h hB)
  have H4 := Lib.hid (fun fv pm W h => aw4 w.heap.size w.heap.size fv pm W h)
  have H5 := Lib.hid (fun fv pm W h => aw5 w.heap.size w.heap.size fv pm W h)
  have H6 := Lib.hid (fun fv pm W h => aw6 w.heap.size w.heap.size fv pm W h)
  have hT := (Has.new w 66 [.int .u64 ((0 : Nat) : Int), .slice none 0 0, .map none, .slice none 0 0, .map none])
  have hb0 := (Below.refl w.heap.size w).alloc (Nat.le_refl _) (.cells #[.int .u64 ((0 : Nat) : Int), .slice none 0 0, .map none, .slice none 0 0, .map none] 66)
  have hfld : ∀ W, (Instr.field 35 (.agg #[.int .i64 2, .int .i64 6, .string ⟨#[]⟩, .int .u64 0]) 1).run Try.prog W = .ok (.int .i64 6) W := fun W => by kernel_rfl
  have HT0 := Lib.hid hT
  have HB0 := Lib.hid hb0
  clear hT hb0
  go_enter Try.func8, Try.ntmps8
  go_wp2_with fail
  refine (HN.out).mono ?_
  rintro e w0 ⟨rfl, hw⟩
  have hT0 := HT0.out
  have hB0 := HB0.out
  rw [hw] at hT0 hB0
  have hs0 : w0.heap.size = w.heap.size + 1 := by rw [← hw]; simp
  clear hw HT0 HB0
  have ha1 := (Below.refl w0.heap.size w0).alloc (Nat.le_refl _) (.cells #[.int .i64 3, .int .i64 0, .string ⟨#[97]⟩, .int .u64 0] 35)
  have ha2 := ha1.alloc ha1.size (.cells #[.int .i64 2, .int .i64 5, .string ⟨#[]⟩, .int .u64 1] 35)
  have HB2 := Lib.hid (hB0.trans (ha2.mono hB0.size))
  have HI2 := Lib.hid (isT_new (hT0.below ha2 hT0.lt) w.heap.size (Nat.le_refl _) (by decide))
  have hk2 := (Has.new w0 35 [.int .i64 3, .int .i64 0, .string ⟨#[97]⟩, .int .u64 0]).keepsT ((KeepsT.refl [] _).alloc (.cells #[.int .i64 2, .int .i64 5, .string ⟨#[]⟩, .int .u64 1] 35)) (by simp)
  have hf2 := Has.new (w0.alloc (.cells #[.int .i64 3, .int .i64 0, .string ⟨#[97]⟩, .int .u64 0] 35)) 35 [.int .i64 2, .int .i64 5, .string ⟨#[]⟩, .int .u64 1]
  simp only [World.size_alloc] at hf2
  have K2 := Lib.hid hk2
  have V2 := Lib.hid hf2
  have HS0 := Lib.hid hs0
  clear hT0 hB0 ha1 ha2 hk2 hf2 hs0
  go_wp2_with fail
  refine (H1.out _ HI2.out).mono ?_
  rintro e w3 ⟨rfl, hb3⟩
  have HI3 := Lib.hid (HI2.out.below hb3)
  have K3 := Lib.hid (K2.out.below hb3 K2.out.lt)
  have V3 := Lib.hid (V2.out.below hb3 V2.out.lt)
  have HB3 := Lib.hid (HB2.out.trans (hb3.mono HB2.out.size))
  clear hb3 HI2 K2 V2 HB2
  have k0 := K3.out.cell 0
  have k1 := K3.out.cell 1
  have k2 := K3.out.cell 2
  have k3 := K3.out.cell 3
  have v0 := V3.out.cell 0
  have v1 := V3.out.cell 1
  have v2 := V3.out.cell 2
  have v3 := V3.out.cell 3
  have hl1 := K3.out.lt
  have hl2 := V3.out.lt
  simp at k0 k1 k2 k3 v0 v1 v2 v3
  go_wp2_with fail
  refine (H2.out _ HI3.out HB3.out.size).mono ?_
  rintro e w4 ⟨rfl, fv4, pm4, hi4, kp4, -, hb4⟩
  have HI4 := Lib.hid hi4
  have K4 := Lib.hid (kp4 _ _ _ (by decide) K3.out)
  have V4 := Lib.hid (kp4 _ _ _ (by decide) V3.out)
  have HB4 := Lib.hid (HB3.out.trans hb4)
  clear hi4 kp4 hb4 HI3 K3 V3 HB3 k0 k1 k2 k3 v0 v1 v2 v3 hl1 hl2
  have k0 := K4.out.cell 0
  have k1 := K4.out.cell 1
  have k2 := K4.out.cell 2
  have k3 := K4.out.cell 3
  have hl1 := K4.out.lt
  simp at k0 k1 k2 k3
  go_wp2_with fail
  refine (H3.out _ _ _ HI4.out HB4.out.size).mono ?_
  rintro e w5 ⟨rfl, fv5, pm5, hi5, kp5, -, hb5⟩
  have HI5 := Lib.hid hi5
  have K5 := Lib.hid (kp5 _ _ _ (by decide) K4.out)
  have V5 := Lib.hid (kp5 _ _ _ (by decide) V4.out)
  have HB5 := Lib.hid (HB4.out.trans hb5)
  clear hi5 kp5 hb5 HI4 K4 V4 HB4 k0 k1 k2 k3 hl1
  have k0 := K5.out.cell 0
  have k1 := K5.out.cell 1
  have k2 := K5.out.cell 2
  have k3 := K5.out.cell 3
  have v0 := V5.out.cell 0
  have v1 := V5.out.cell 1
  have v2 := V5.out.cell 2
  have v3 := V5.out.cell 3
  have hl1 := K5.out.lt
  have hl2 := V5.out.lt
  simp at k0 k1 k2 k3 v0 v1 v2 v3
  go_wp2_with fail
  refine (H4.out _ _ _ HI5.out).mono ?_
  rintro e w6 ⟨rfl, hb6⟩
  have HI6 := Lib.hid (HI5.out.below hb6)
  have K6 := Lib.hid (K5.out.below hb6 K5.out.lt)
  have HB6 := Lib.hid (HB5.out.trans (hb6.mono HB5.out.size))
  clear hb6 HI5 K5 V5 HB5 k0 k1 k2 k3 v0 v1 v2 v3 hl1 hl2
  have k0 := K6.out.cell 0
  have k1 := K6.out.cell 1
  have k2 := K6.out.cell 2
  have k3 := K6.out.cell 3
  have hl1 := K6.out.lt
  simp at k0 k1 k2 k3
  go_wp2_with fail
  refine (H5.out _ _ _ HI6.out).mono ?_
  rintro e w7 ⟨rfl, hb7⟩
  have HI7 := Lib.hid (HI6.out.below hb7)
  have HB7 := Lib.hid (HB6.out.trans (hb7.mono HB6.out.size))
  clear hb7 HI6 K6 HB6 k0 k1 k2 k3 hl1
  go_wp2_with fail
  refine (H6.out _ _ _ HI7.out).mono ?_
  rintro e w8 ⟨rfl, hw⟩
  subst hw
  go_wp2
  refine bodyPost_ret (v := .bool true) (by simp [results, Try.results8, go_sem]) rfl ⟨rfl, HB7.out⟩
end TabD
end Go.Proofs.Ytpmbbkhhnkhcbaa
