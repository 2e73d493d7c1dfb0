/- One event as a text. -/
import Derived.Test.YticgpfigjkgfaaaDoorTraceB
import Derived.Test.YticgpfigjkgfaaaDoorNumAwake
namespace Go.Proofs.YticgpfigjkgfaaaDoor
open Go.RowKit ObjM
namespace TraceD
open LabelM LabelD NumD

set_option maxRecDepth 100000 in
set_option maxHeartbeats 1000000 in
theorem text_int (c n : Int) (s : ByteArray) (h0 : -9223372036854775808 ≤ n) (h1 : n ≤ 9223372036854775807) (w : World) (hT : Tab w) :
    Calls Tryd.prog 23 #[.agg #[.int .i64 c, .int .i64 2, .int .i64 n, .string s]] w fun e w' => e = .returned (.string ⟨(Lib.itoa n).toArray⟩) ∧ Below w.heap.size w w' := by
  have HN := fun (W : World) (hb : Below w.heap.size w W) => Lib.hid (show_any n h0 h1 W (hT.below hb))
  clear hT h0 h1
  obtain ⟨iz, hiz⟩ : ∃ z : ByteArray, (⟨(Lib.itoa n).toArray⟩ : ByteArray) = z := ⟨_, rfl⟩
  simp only [hiz] at HN ⊢
  clear hiz
  have hA1 : ∀ o : Go.Obj, Below w.heap.size w (w.alloc o) := fun o => (Below.refl _ w).alloc (Nat.le_refl _) o
  go_enter Tryd.func23, Tryd.ntmps23
  go_wp2_with fail
  with_reducible refine ((HN _ (hA1 _)).out).mono ?_
  rintro e w1 ⟨rfl, hb⟩
  go_wp2
  go_ret
  exact ⟨rfl, (hA1 _).trans (hb.mono (by simp))⟩

theorem itoa2 : (⟨(Lib.itoa 2).toArray⟩ : ByteArray) = ⟨#[50]⟩ := by decide +kernel
theorem itoa5 : (⟨(Lib.itoa 5).toArray⟩ : ByteArray) = ⟨#[53]⟩ := by decide +kernel

set_option maxRecDepth 100000 in
set_option maxHeartbeats 2000000 in
/-- The example's events as a text. -/
theorem show_one (b : Nat) (w : World) (hH : Has w b 38 [.int .i64 2, .int .i64 2, .int .i64 5, .string ⟨#[]⟩]) (hT : Tab w) :
    Calls Tryd.prog 15 #[.slice (some ⟨b, 0, none⟩) 1 1] w fun e w' => e = .returned (.string ⟨#[50, 32, 53, 10]⟩) ∧ Below w.heap.size w w' := by
  have HT := Lib.hid hT
  have HX := fun (W : World) (hb : Below w.heap.size w W) => Lib.hid (text_int 2 5 ⟨#[]⟩ (by decide) (by decide) W (HT.out.below hb))
  have HI := fun (W : World) (hb : Below w.heap.size w W) => Lib.hid (Tryd.strconv_Itoa 2 (by decide) (by decide) W (HT.out.below hb))
  have HW := fun (B bb : Nat) (W : World) h hB => Lib.hid (writeString_any B bb [] ⟨#[50, 32, 53, 10]⟩ W h (by decide) hB)
  rw [itoa5] at HX
  rw [itoa2] at HI
  have c0 := hH.cell 0
  have c1 := hH.cell 1
  have c2 := hH.cell 2
  have c3 := hH.cell 3
  have hlt := hH.lt
  simp at c0 c1 c2 c3
  clear hT hH
  go_enter Tryd.func15, Tryd.ntmps15
  go_wp2
  refine wp_loop_rounds 2 ?_
  rw [rounds_succ]
  go_wp2
  have hb0 := (Has.new w 46 [.pointer none, .slice none 0 0]).keepsT ((KeepsT.refl [] _).alloc (.cells #[.int .i64 2, .int .i64 2, .int .i64 5, .string ⟨#[]⟩] 38)) (by simp)
  have hv0 := Has.new (w.alloc (.cells #[.pointer none, .slice none 0 0] 46)) 38 [.int .i64 2, .int .i64 2, .int .i64 5, .string ⟨#[]⟩]
  simp only [World.size_alloc] at hv0
  have hB0 : Below w.heap.size w ((w.alloc (.cells #[.pointer none, .slice none 0 0] 46)).alloc (.cells #[.int .i64 2, .int .i64 2, .int .i64 5, .string ⟨#[]⟩] 38)) := ((Below.refl _ w).alloc (Nat.le_refl _) _).alloc (by simp) _
  change Code.wp _ _ _ _ (World.alloc (World.alloc w _) _)
  generalize World.alloc (World.alloc w _) _ = W1 at hb0 hv0 hB0 ⊢
  have HF : Hid (∀ W', Below W1.heap.size W1 W' → (W'.cell? ⟨w.heap.size + 1, 0, none⟩ = some (.int .i64 2) ∧ W'.cell? ⟨w.heap.size + 1, 1, none⟩ = some (.int .i64 2) ∧ W'.cell? ⟨w.heap.size + 1, 2, none⟩ = some (.int .i64 5) ∧ W'.cell? ⟨w.heap.size + 1, 3, none⟩ = some (.string ⟨#[]⟩)) ∧
      Lib.IsBuilder 46 5 w.heap.size w.heap.size [] W' ∧ w.heap.size ≤ W'.heap.size ∧ Below w.heap.size w W') := Lib.hid (fun W' hb => by
    have p := hv0.below hb hv0.lt
    have q := hb0.below hb hb0.lt
    have hB := hB0.trans (hb.mono hB0.size)
    exact ⟨⟨p.cell 0, p.cell 1, p.cell 2, p.cell 3⟩, .inl ⟨Nat.le_refl _, .slice none 0 0, q, World.ownsRow_nil _ _ _ _, by simp [Value.ownBlock]⟩, hB.size, hB⟩)
  obtain ⟨⟨e0, e1, e2, e3⟩, -, -, -⟩ := HF.out W1 (Below.refl _ _)
  clear hb0 hv0 hB0 c0 c1 c2 c3 hlt
  go_region_with
    (first
      | (go_at_call 22
         go_loud (
         with_reducible refine ((HI _ (HF.out _ ((Below.refl _ _).drew)).2.2.2).out).mono ?_
         rintro e w2 ⟨rfl, k, os, hw2⟩
         have q2 : Below W1.heap.size W1 w2 := by
           rw [hw2]
           exact ((Below.refl _ _).drew).trans (below_grow W1.drew k os)
         clear hw2
         obtain ⟨⟨a0, a1, a2, a3⟩, -, -, -⟩ := HF.out w2 q2))
      | (go_at_call 23
         go_loud (
         with_reducible refine ((HX _ (HF.out _ q2).2.2.2).out).mono ?_
         rintro e w3 ⟨rfl, hb3⟩
         have q3 : Below W1.heap.size W1 w3 := q2.trans (hb3.mono q2.size)
         clear hb3))
      | (go_at_call 21
         go_loud (
         refine ((HW _ _ _ (HF.out _ q3).2.1 (HF.out _ q3).2.2.1).out).mono ?_
         rintro e w4 ⟨rfl, hbu, hb4⟩
         have q4 : Below w.heap.size w w4 := (HF.out _ q3).2.2.2.trans hb4)))
  all_goals
    have hIB : Lib.IsBuilder 46 5 w.heap.size w.heap.size (Lib.byteCells [50, 32, 53, 10]) w4 := .inr hbu
    have HS := Lib.hid (Tryd.Builder_String w.heap.size w.heap.size [50, 32, 53, 10] w4 hIB (by simp))
    have HQ := Lib.hid q4
    clear hbu hb4 q4 hIB
    go_wp2
    rw [rounds_succ]
    go_wp2_with fail
    refine (HS.out).mono ?_
    rintro e w5 ⟨rfl, hb5⟩
    go_wp2
    go_ret
    exact ⟨rfl, HQ.out.trans hb5⟩
end TraceD
end Go.Proofs.YticgpfigjkgfaaaDoor
