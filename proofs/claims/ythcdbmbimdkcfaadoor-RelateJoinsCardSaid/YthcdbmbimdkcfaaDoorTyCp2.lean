/- dup.copied: a list's copy, paid. -/
import Derived.Test.YthcdbmbimdkcfaaDoorTyCp1
namespace Go.Proofs.YthcdbmbimdkcfaaDoor
open Go.RowKit ObjM
namespace TyD
open LexD (WTab)

/-- A copy that is paid for. -/
def PaidIs (w : World) (C lf : Nat) (t : TypeId) (n : Nat) (cs : List Value) (e : Ending) (w' : World) : Prop :=
  ∃ g, e = .returned (.tuple #[.slice (some ⟨g, 0, none⟩) n n, .bool true]) ∧ w.heap.size ≤ g ∧ (∃ ds, Has w' g t ds ∧ ds.take cs.length = cs ∧ cs.length ≤ ds.length) ∧ Keeps [C] w w' ∧ Has w' C 47 [.int .i64 (lf : Int), .bool false, .map none, .map none]

theorem copiedS_no (av : Option Addr) (c C : Nat) (w : World) : Calls Tryd.prog 76 #[.pointer (some ⟨C, 0, none⟩), .map none, .slice av 0 c, .int .i64 16] w fun e w' => e = .returned (.tuple #[.slice none 0 0, .bool false]) ∧ w = w' := by
  go_enter Tryd.func76, Tryd.ntmps76
  go_wp2
  go_ret2
  exact ⟨rfl, rfl⟩
set_option maxRecDepth 100000 in
set_option maxHeartbeats 4000000 in
theorem copiedS_some (cs : List Value) (b o n c C left : Nat) (w : World) (h0 : 0 < n) (hn : n ≤ 1000000) (hl : n * 16 ≤ left) (hl2 : left ≤ 1000000000) (hC : Has w C 47 [.int .i64 (left : Int), .bool false, .map none, .map none])
    (HCl : ∀ W, Keeps [C] w W → Calls Tryd.prog 61 #[.slice (some ⟨b, o, none⟩) n c] W (CopyOf W 9 n cs)) :
    Calls Tryd.prog 76 #[.pointer (some ⟨C, 0, none⟩), .map none, .slice (some ⟨b, o, none⟩) n c, .int .i64 16] w (PaidIs w C (left - n * 16) 9 n cs) := by
  have hlk : ∀ (W : World), (Instr.lookup 45 (.map none) (.agg #[.pointer (some ⟨b, o, none⟩), .int .i64 (n : Int)]) true).run Tryd.prog W = .ok (.tuple #[.slice none 0 0, .bool false]) W := fun _ => by kernel_rfl
  have hmn : ∀ (W : World), (binOp .neq 45 (.map none) (.map none)).run Tryd.prog W = .ok (.bool false) W := fun _ => by kernel_rfl
  obtain ⟨lf, hlf⟩ : ∃ lf, left - n * 16 = lf := ⟨_, rfl⟩
  rw [hlf]
  have hleft : left = lf + n * 16 := by omega
  have HWh := Lib.hid (whichS_any b o n c w h0)
  have HCl2 := Lib.hid HCl
  have HC := Lib.hid hC
  have hn0 : ((n : Int) == 0) = false := by simp; omega
  have hn0i : (0 : Int) ≤ (n : Int) := by omega
  have hni : (n : Int) ≤ 1000000 := by omega
  have hq : decide ((left : Int) / 16 < (n : Int)) = false := by simp; omega
  have hl0 : (0 : Int) ≤ (left : Int) := by omega
  have hli : (left : Int) ≤ 1000000000 := by omega
  have HE : Hid ((left : Int) - (n : Int) * 16 = (lf : Int)) := Lib.hid (by omega)
  have hge : (0 : Int) ≤ (left : Int) - (n : Int) * 16 := by omega
  clear HCl hC hlf hleft hl hl2
  go_enter Tryd.func76, Tryd.ntmps76
  go_wp2_with fail
  refine (HWh.out).mono ?_
  rintro e w1 ⟨rfl, hb1⟩
  have hC1 := HC.out.below hb1 HC.out.lt
  have c0 := hC1.cell 0
  have f0 := hC1.frozen 0
  have lc := hC1.lt
  simp only [List.getElem?_cons_zero] at c0
  have HK2 : Hid (Keeps [C] w (w1.setCell ⟨C, 0, none⟩ (.int .i64 (lf : Int))) ∧ Has (w1.setCell ⟨C, 0, none⟩ (.int .i64 (lf : Int))) C 47 [.int .i64 (lf : Int), .bool false, .map none, .map none]) := Lib.hid ⟨(Keeps.below' hb1 [C]).trans (Keeps.set w1 C 0 _) (fun _ h => .inl h), hC1.set 0 _⟩
  clear hb1 hC1 HC HWh
  go_wp2_with fail
  rw [HE.out]
  refine (HCl2.out _ HK2.out.1).mono ?_
  rintro e w2 ⟨g, c2, rfl, hc2, hg, hds, hb2⟩
  have HF : Hid (PaidIs w C lf 9 n cs (.returned (.tuple #[.slice (some ⟨g, 0, none⟩) n n, .bool true])) w2) := Lib.hid ⟨g, rfl, Nat.le_trans HK2.out.1.size hg, hds, HK2.out.1.trans (Keeps.below' hb2 [C]) (fun _ h => .inl h), HK2.out.2.below hb2 HK2.out.2.lt⟩
  have HCp := Lib.hid (clipS_any g n c2 w2 hc2)
  clear hc2 hg hds hb2 HK2 HCl2 c0 f0 lc
  go_wp2_with fail
  refine (HCp.out).mono ?_
  rintro e w3 ⟨rfl, rfl⟩
  go_wp2
  go_ret2
  exact HF.out

theorem copiedT_no (av : Option Addr) (c C : Nat) (w : World) : Calls Tryd.prog 77 #[.pointer (some ⟨C, 0, none⟩), .map none, .slice av 0 c, .int .i64 56] w fun e w' => e = .returned (.tuple #[.slice none 0 0, .bool false]) ∧ w = w' := by
  go_enter Tryd.func77, Tryd.ntmps77
  go_wp2
  go_ret2
  exact ⟨rfl, rfl⟩
set_option maxRecDepth 100000 in
set_option maxHeartbeats 4000000 in
theorem copiedT_some (cs : List Value) (b o n c C left : Nat) (w : World) (h0 : 0 < n) (hn : n ≤ 1000000) (hl : n * 56 ≤ left) (hl2 : left ≤ 1000000000) (hC : Has w C 47 [.int .i64 (left : Int), .bool false, .map none, .map none])
    (HCl : ∀ W, Keeps [C] w W → Calls Tryd.prog 95 #[.slice (some ⟨b, o, none⟩) n c] W (CopyOf W 25 n cs)) :
    Calls Tryd.prog 77 #[.pointer (some ⟨C, 0, none⟩), .map none, .slice (some ⟨b, o, none⟩) n c, .int .i64 56] w (PaidIs w C (left - n * 56) 25 n cs) := by
  have hlk : ∀ (W : World), (Instr.lookup 44 (.map none) (.agg #[.pointer (some ⟨b, o, none⟩), .int .i64 (n : Int)]) true).run Tryd.prog W = .ok (.tuple #[.slice none 0 0, .bool false]) W := fun _ => by kernel_rfl
  have hmn : ∀ (W : World), (binOp .neq 44 (.map none) (.map none)).run Tryd.prog W = .ok (.bool false) W := fun _ => by kernel_rfl
  obtain ⟨lf, hlf⟩ : ∃ lf, left - n * 56 = lf := ⟨_, rfl⟩
  rw [hlf]
  have hleft : left = lf + n * 56 := by omega
  have HWh := Lib.hid (whichT_any b o n c w h0)
  have HCl2 := Lib.hid HCl
  have HC := Lib.hid hC
  have hn0 : ((n : Int) == 0) = false := by simp; omega
  have hn0i : (0 : Int) ≤ (n : Int) := by omega
  have hni : (n : Int) ≤ 1000000 := by omega
  have hq : decide ((left : Int) / 56 < (n : Int)) = false := by simp; omega
  have hl0 : (0 : Int) ≤ (left : Int) := by omega
  have hli : (left : Int) ≤ 1000000000 := by omega
  have HE : Hid ((left : Int) - (n : Int) * 56 = (lf : Int)) := Lib.hid (by omega)
  have hge : (0 : Int) ≤ (left : Int) - (n : Int) * 56 := by omega
  clear HCl hC hlf hleft hl hl2
  go_enter Tryd.func77, Tryd.ntmps77
  go_wp2_with fail
  refine (HWh.out).mono ?_
  rintro e w1 ⟨rfl, hb1⟩
  have hC1 := HC.out.below hb1 HC.out.lt
  have c0 := hC1.cell 0
  have f0 := hC1.frozen 0
  have lc := hC1.lt
  simp only [List.getElem?_cons_zero] at c0
  have HK2 : Hid (Keeps [C] w (w1.setCell ⟨C, 0, none⟩ (.int .i64 (lf : Int))) ∧ Has (w1.setCell ⟨C, 0, none⟩ (.int .i64 (lf : Int))) C 47 [.int .i64 (lf : Int), .bool false, .map none, .map none]) := Lib.hid ⟨(Keeps.below' hb1 [C]).trans (Keeps.set w1 C 0 _) (fun _ h => .inl h), hC1.set 0 _⟩
  clear hb1 hC1 HC HWh
  go_wp2_with fail
  rw [HE.out]
  refine (HCl2.out _ HK2.out.1).mono ?_
  rintro e w2 ⟨g, c2, rfl, hc2, hg, hds, hb2⟩
  have HF : Hid (PaidIs w C lf 25 n cs (.returned (.tuple #[.slice (some ⟨g, 0, none⟩) n n, .bool true])) w2) := Lib.hid ⟨g, rfl, Nat.le_trans HK2.out.1.size hg, hds, HK2.out.1.trans (Keeps.below' hb2 [C]) (fun _ h => .inl h), HK2.out.2.below hb2 HK2.out.2.lt⟩
  have HCp := Lib.hid (clipT_any g n c2 w2 hc2)
  clear hc2 hg hds hb2 HK2 HCl2 c0 f0 lc
  go_wp2_with fail
  refine (HCp.out).mono ?_
  rintro e w3 ⟨rfl, rfl⟩
  go_wp2
  go_ret2
  exact HF.out
end TyD
end Go.Proofs.YthcdbmbimdkcfaaDoor
