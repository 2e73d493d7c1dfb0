/- The example of chapter 16: fields. (Written by mk_code1.py.) -/
import Derived.WalkSmall
import Derived.Test.YtmebhdffgpnplaaDoorInstrDec2
import Derived.Test.YtmebhdffgpnplaaDoorVal
import Derived.Test.YtmebhdffgpnplaaDoorObj
namespace Go.Proofs.YtmebhdffgpnplaaDoor
open Go.RowKit ObjM
namespace CodeD
open InstrM InstrD

/-- The example's function in memory: its words are x and 42. -/
structure ExP (w : World) (gT gW gC gP : Nat) (x : Int) : Prop where
  t : Has w gT 43 [.int .i64 0, .slice none 0 0, .slice none 0 0]
  ws : Has w gW 44 [.int .u32 x, .int .u32 42]
  c : Has w gC 46 [.int .i64 0, .int .i64 0, .string ⟨#[]⟩, .int .u64 0]
  p : Has w gP 3 [.int .i64 0, .int .i64 0]
theorem ExP.below {w w' : World} {gT gW gC gP : Nat} {x : Int} (h : ExP w gT gW gC gP x) (k : Below w.heap.size w w') : ExP w' gT gW gC gP x := ⟨h.t.below k h.t.lt, h.ws.below k h.ws.lt, h.c.below k h.c.lt, h.p.below k h.p.lt⟩
set_option maxRecDepth 100000 in
theorem in_yes (n m : Int) (h0 : 0 ≤ n) (h1 : n < m) (w : World) : Calls Tryd.prog 84 #[.int .i64 n, .int .i64 m] w fun e w' => e = .returned (.bool true) ∧ w = w' := by
  go_enter Tryd.func84, Tryd.ntmps84
  go_wp2
  go_ret
  exact ⟨rfl, rfl⟩
set_option maxRecDepth 100000 in
theorem branches_1 (w : World) : Calls Tryd.prog 68 #[.int .u32 1] w fun e w' => e = .returned (.bool false) ∧ w = w' := by
  have hb : bits BinOp.and IntKind.u32 1 255 = 1 := by kernel_rfl
  go_enter Tryd.func68, Tryd.ntmps68
  go_wp2
  go_ret
  exact ⟨rfl, rfl⟩
set_option maxRecDepth 100000 in
theorem branches_35 (w : World) : Calls Tryd.prog 68 #[.int .u32 35] w fun e w' => e = .returned (.bool true) ∧ w = w' := by
  have hb : bits BinOp.and IntKind.u32 35 255 = 35 := by kernel_rfl
  go_enter Tryd.func68, Tryd.ntmps68
  go_wp2
  go_ret
  exact ⟨rfl, rfl⟩
set_option maxRecDepth 100000 in
set_option maxHeartbeats 4000000 in
theorem last_1 (gT gW gC gP gI : Nat) (w : World) (h : ExP w gT gW gC gP 1) : Calls Tryd.prog 86 #[.agg #[.slice (some ⟨gI, 0, none⟩) 1 1, .slice none 0 0, .slice none 0 0, .int .u64 0, .int .u64 0, .int .u64 0, .int .u64 0, .int .u64 0, .int .u64 0, .int .u64 0, .int .u64 0], .agg #[.slice (some ⟨gT, 0, none⟩) 1 1, .int .i64 1, .slice (some ⟨gW, 0, none⟩) 2 2, .slice (some ⟨gC, 0, none⟩) 1 1, .slice none 0 0, .slice (some ⟨gP, 0, none⟩) 2 2], .agg #[.int .i64 1, .int .i64 0, .int .i64 0, .int .i64 0, .int .i64 0]] w fun e w' => e = .returned (.bool true) ∧ Below w.heap.size w w' := by
  have HI := Lib.hid (fun (n m : Int) (h0 : 0 ≤ n) (h1 : n < m) W => in_yes n m h0 h1 W)
  have cw := h.ws.cell 0
  have lw := h.ws.lt
  simp only [List.getElem?_cons_zero] at cw
  have hb : bits BinOp.and IntKind.u32 35 255 = 35 := by kernel_rfl
  have HBl : Hid (∀ o p q, Below w.heap.size w (((w.alloc o).alloc p).alloc q)) := Lib.hid fun o p q => (((Below.refl _ w).alloc (Nat.le_refl _) _).alloc (by simp) _).alloc (by simp; omega) _
  clear h
  go_enter Tryd.func86, Tryd.ntmps86
  go_wp2_with fail
  refine (HI.out _ _ (by decide) (by decide) _).mono ?_
  rintro e w2 ⟨rfl, hw⟩
  subst hw
  go_wp2
  go_ret
  exact ⟨rfl, HBl.out _ _ _⟩
set_option maxRecDepth 100000 in
set_option maxHeartbeats 4000000 in
theorem last_35 (gT gW gC gP gI : Nat) (w : World) (h : ExP w gT gW gC gP 35) : Calls Tryd.prog 86 #[.agg #[.slice (some ⟨gI, 0, none⟩) 1 1, .slice none 0 0, .slice none 0 0, .int .u64 0, .int .u64 0, .int .u64 0, .int .u64 0, .int .u64 0, .int .u64 0, .int .u64 0, .int .u64 0], .agg #[.slice (some ⟨gT, 0, none⟩) 1 1, .int .i64 1, .slice (some ⟨gW, 0, none⟩) 2 2, .slice (some ⟨gC, 0, none⟩) 1 1, .slice none 0 0, .slice (some ⟨gP, 0, none⟩) 2 2], .agg #[.int .i64 35, .int .i64 0, .int .i64 0, .int .i64 0, .int .i64 0]] w fun e w' => e = .returned (.bool true) ∧ Below w.heap.size w w' := by
  have HI := Lib.hid (fun (n m : Int) (h0 : 0 ≤ n) (h1 : n < m) W => in_yes n m h0 h1 W)
  have cw := h.ws.cell 0
  have lw := h.ws.lt
  simp only [List.getElem?_cons_zero] at cw
  have hb : bits BinOp.and IntKind.u32 35 255 = 35 := by kernel_rfl
  have HBl : Hid (∀ o p q, Below w.heap.size w (((w.alloc o).alloc p).alloc q)) := Lib.hid fun o p q => (((Below.refl _ w).alloc (Nat.le_refl _) _).alloc (by simp) _).alloc (by simp; omega) _
  clear h
  go_enter Tryd.func86, Tryd.ntmps86
  go_wp2_with fail
  refine (HI.out _ _ (by decide) (by decide) _).mono ?_
  rintro e w2 ⟨rfl, hw⟩
  have c2 : w2.cell? ⟨gW, 0, none⟩ = some (.int .u32 35) := by rw [← hw]; exact ((HBl.out _ _ _).cell (p := ⟨gW, 0, none⟩) lw).trans cw
  have c3 : w2.cell? ⟨w.heap.size + 1, 2, none⟩ = some (.slice (some ⟨gW, 0, none⟩) 2 2) := by rw [← hw]; simp [go_sem]
  have c4 : w2.cell? ⟨w.heap.size + 1 + 1, 4, none⟩ = some (.int .i64 0) := by rw [← hw]; simp [go_sem]
  have l3 : w.heap.size + 1 + 1 < w2.heap.size := by rw [← hw]; simp
  have l4 : w.heap.size + 1 < w2.heap.size := by omega
  have l5 : gW < w2.heap.size := by omega
  have HB2 : Hid (Below w.heap.size w w2) := Lib.hid (by rw [← hw]; exact HBl.out _ _ _)
  clear hw cw lw HBl
  go_wp2
  go_ret
  exact ⟨rfl, HB2.out⟩
set_option maxRecDepth 100000 in
set_option maxHeartbeats 4000000 in
theorem fieldA_1 (gT gW gC gP gI : Nat) (w : World) : Calls Tryd.prog 69 #[.agg #[.slice (some ⟨gI, 0, none⟩) 1 1, .slice none 0 0, .slice none 0 0, .int .u64 0, .int .u64 0, .int .u64 0, .int .u64 0, .int .u64 0, .int .u64 0, .int .u64 0, .int .u64 0], .agg #[.slice (some ⟨gT, 0, none⟩) 1 1, .int .i64 1, .slice (some ⟨gW, 0, none⟩) 2 2, .slice (some ⟨gC, 0, none⟩) 1 1, .slice none 0 0, .slice (some ⟨gP, 0, none⟩) 2 2], .agg #[.int .i64 1, .int .i64 0, .int .i64 0, .int .i64 0, .int .i64 0], .int .i32 65] w fun e w' => e = .returned (.bool true) ∧ Below w.heap.size w w' := by
  have HI := Lib.hid (fun (n m : Int) (h0 : 0 ≤ n) (h1 : n < m) W => in_yes n m h0 h1 W)
  have HBl : Hid (∀ o p q, Below w.heap.size w (((w.alloc o).alloc p).alloc q)) := Lib.hid fun o p q => (((Below.refl _ w).alloc (Nat.le_refl _) _).alloc (by simp) _).alloc (by simp; omega) _
  go_enter Tryd.func69, Tryd.ntmps69
  go_wp2_with fail
  refine (HI.out _ _ (by decide) (by decide) _).mono ?_
  rintro e w2 ⟨rfl, hw⟩
  subst hw
  go_wp2
  go_ret
  exact ⟨rfl, HBl.out _ _ _⟩
set_option maxRecDepth 100000 in
set_option maxHeartbeats 4000000 in
theorem fieldA_35 (gT gW gC gP gI : Nat) (w : World) : Calls Tryd.prog 69 #[.agg #[.slice (some ⟨gI, 0, none⟩) 1 1, .slice none 0 0, .slice none 0 0, .int .u64 0, .int .u64 0, .int .u64 0, .int .u64 0, .int .u64 0, .int .u64 0, .int .u64 0, .int .u64 0], .agg #[.slice (some ⟨gT, 0, none⟩) 1 1, .int .i64 1, .slice (some ⟨gW, 0, none⟩) 2 2, .slice (some ⟨gC, 0, none⟩) 1 1, .slice none 0 0, .slice (some ⟨gP, 0, none⟩) 2 2], .agg #[.int .i64 35, .int .i64 0, .int .i64 0, .int .i64 0, .int .i64 0], .int .i32 65] w fun e w' => e = .returned (.bool true) ∧ Below w.heap.size w w' := by
  have HI := Lib.hid (fun (n m : Int) (h0 : 0 ≤ n) (h1 : n < m) W => in_yes n m h0 h1 W)
  have HBl : Hid (∀ o p q, Below w.heap.size w (((w.alloc o).alloc p).alloc q)) := Lib.hid fun o p q => (((Below.refl _ w).alloc (Nat.le_refl _) _).alloc (by simp) _).alloc (by simp; omega) _
  go_enter Tryd.func69, Tryd.ntmps69
  go_wp2_with fail
  refine (HI.out _ _ (by decide) (by decide) _).mono ?_
  rintro e w2 ⟨rfl, hw⟩
  subst hw
  go_wp2
  go_ret
  exact ⟨rfl, HBl.out _ _ _⟩
set_option maxRecDepth 100000 in
set_option maxHeartbeats 4000000 in
theorem fieldA_42 (gT gW gC gP gI : Nat) (w : World) : Calls Tryd.prog 69 #[.agg #[.slice (some ⟨gI, 0, none⟩) 1 1, .slice none 0 0, .slice none 0 0, .int .u64 0, .int .u64 0, .int .u64 0, .int .u64 0, .int .u64 0, .int .u64 0, .int .u64 0, .int .u64 0], .agg #[.slice (some ⟨gT, 0, none⟩) 1 1, .int .i64 1, .slice (some ⟨gW, 0, none⟩) 2 2, .slice (some ⟨gC, 0, none⟩) 1 1, .slice none 0 0, .slice (some ⟨gP, 0, none⟩) 2 2], .agg #[.int .i64 42, .int .i64 0, .int .i64 0, .int .i64 0, .int .i64 0], .int .i32 65] w fun e w' => e = .returned (.bool true) ∧ Below w.heap.size w w' := by
  have HI := Lib.hid (fun (n m : Int) (h0 : 0 ≤ n) (h1 : n < m) W => in_yes n m h0 h1 W)
  have HBl : Hid (∀ o p q, Below w.heap.size w (((w.alloc o).alloc p).alloc q)) := Lib.hid fun o p q => (((Below.refl _ w).alloc (Nat.le_refl _) _).alloc (by simp) _).alloc (by simp; omega) _
  go_enter Tryd.func69, Tryd.ntmps69
  go_wp2_with fail
  refine (HI.out _ _ (by decide) (by decide) _).mono ?_
  rintro e w2 ⟨rfl, hw⟩
  subst hw
  go_wp2
  go_ret
  exact ⟨rfl, HBl.out _ _ _⟩
set_option maxRecDepth 100000 in
set_option maxHeartbeats 4000000 in
theorem fieldD_1 (gT gW gC gP gI : Nat) (w : World) (h : ExP w gT gW gC gP 1) : Calls Tryd.prog 69 #[.agg #[.slice (some ⟨gI, 0, none⟩) 1 1, .slice none 0 0, .slice none 0 0, .int .u64 0, .int .u64 0, .int .u64 0, .int .u64 0, .int .u64 0, .int .u64 0, .int .u64 0, .int .u64 0], .agg #[.slice (some ⟨gT, 0, none⟩) 1 1, .int .i64 1, .slice (some ⟨gW, 0, none⟩) 2 2, .slice (some ⟨gC, 0, none⟩) 1 1, .slice none 0 0, .slice (some ⟨gP, 0, none⟩) 2 2], .agg #[.int .i64 1, .int .i64 0, .int .i64 0, .int .i64 0, .int .i64 0], .int .i32 68] w fun e w' => e = .returned (.bool true) ∧ Below w.heap.size w w' := by
  have HL := Lib.hid (fun (W : World) (hW : Below w.heap.size w W) => last_1 gT gW gC gP gI W (h.below hW))
  have HBl : Hid (∀ o p q, Below w.heap.size w (((w.alloc o).alloc p).alloc q)) := Lib.hid fun o p q => (((Below.refl _ w).alloc (Nat.le_refl _) _).alloc (by simp) _).alloc (by simp; omega) _
  clear h
  go_enter Tryd.func69, Tryd.ntmps69
  go_wp2_with fail
  refine (HL.out _ (HBl.out _ _ _)).mono ?_
  rintro e w2 ⟨rfl, hb⟩
  have HB2 := Lib.hid ((HBl.out _ _ _).trans (hb.mono (HBl.out _ _ _).size))
  clear hb
  go_wp2
  go_ret
  exact ⟨rfl, HB2.out⟩
set_option maxRecDepth 100000 in
set_option maxHeartbeats 4000000 in
theorem fieldD_35 (gT gW gC gP gI : Nat) (w : World) (h : ExP w gT gW gC gP 35) : Calls Tryd.prog 69 #[.agg #[.slice (some ⟨gI, 0, none⟩) 1 1, .slice none 0 0, .slice none 0 0, .int .u64 0, .int .u64 0, .int .u64 0, .int .u64 0, .int .u64 0, .int .u64 0, .int .u64 0, .int .u64 0], .agg #[.slice (some ⟨gT, 0, none⟩) 1 1, .int .i64 1, .slice (some ⟨gW, 0, none⟩) 2 2, .slice (some ⟨gC, 0, none⟩) 1 1, .slice none 0 0, .slice (some ⟨gP, 0, none⟩) 2 2], .agg #[.int .i64 35, .int .i64 0, .int .i64 0, .int .i64 0, .int .i64 0], .int .i32 68] w fun e w' => e = .returned (.bool true) ∧ Below w.heap.size w w' := by
  have HL := Lib.hid (fun (W : World) (hW : Below w.heap.size w W) => last_35 gT gW gC gP gI W (h.below hW))
  have HBl : Hid (∀ o p q, Below w.heap.size w (((w.alloc o).alloc p).alloc q)) := Lib.hid fun o p q => (((Below.refl _ w).alloc (Nat.le_refl _) _).alloc (by simp) _).alloc (by simp; omega) _
  clear h
  go_enter Tryd.func69, Tryd.ntmps69
  go_wp2_with fail
  refine (HL.out _ (HBl.out _ _ _)).mono ?_
  rintro e w2 ⟨rfl, hb⟩
  have HB2 := Lib.hid ((HBl.out _ _ _).trans (hb.mono (HBl.out _ _ _).size))
  clear hb
  go_wp2
  go_ret
  exact ⟨rfl, HB2.out⟩
set_option maxRecDepth 100000 in
theorem must_yes (fn wd : Int) (w : World) : Calls Tryd.prog 29 #[.bool true, .int .i64 fn, .int .i64 wd] w fun e w' => e = .returned (.tuple #[]) ∧ w = w' := by
  go_enter Tryd.func29, Tryd.ntmps29
  go_wp2
  go_end0
  exact ⟨rfl, rfl⟩
def panC (fn wd : Int) : List PanicEntry := [{ v := .iface 78 (.agg #[.int .i64 fn, .int .i64 wd]), recovered := false }]
set_option maxRecDepth 100000 in
theorem must_no (fn wd : Int) (w : World) : Calls Tryd.prog 29 #[.bool false, .int .i64 fn, .int .i64 wd] w fun e w' => e = .panicked (panC fn wd) ∧ w = w' := by
  go_enter Tryd.func29, Tryd.ntmps29
  go_wp2
  exact ⟨rfl, rfl, rfl⟩
end CodeD
end Go.Proofs.YtmebhdffgpnplaaDoor
