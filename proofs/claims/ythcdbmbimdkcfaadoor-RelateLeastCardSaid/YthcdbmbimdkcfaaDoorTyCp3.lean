/- dup's helpers: a list's copy. -/
import Derived.Test.YthcdbmbimdkcfaaDoorTySnug
import Derived.Test.YthcdbmbimdkcfaaDoorTyClone
import Derived.Maps.AppendAt
import Derived.Lib.SliceRun
namespace Go.Proofs.YthcdbmbimdkcfaaDoor
open Go.RowKit ObjM
namespace TyD
open LexD (WTab)

/-- A row of types as cells. -/
theorem tys_rows {W : World} {av : Option Addr} {n c : Nat} {ls : List Ty} (h : TysAt W (.slice av n c) ls) (h0 : ls ≠ []) :
    ∃ b o xs, av = some ⟨b, o, none⟩ ∧ b < W.heap.size ∧ xs.map (·.1) = ls ∧ (∀ j u, (rowX xs)[j]? = some u → W.cell? ⟨b, o + j, none⟩ = some u) ∧ ∀ x ∈ xs, TyAt W x.2.1 x.2.2 x.1 := by
  obtain ⟨vns, vas, ⟨av2, cap2, e, -, -, -, h1⟩, h2⟩ := h
  injection e with e1 e2 e3
  subst e1
  rcases h1 with h1 | ⟨b, o, h1, h3, h4⟩
  · exact absurd h1 h0
  · refine ⟨b, o, (List.range ls.length).pmap (fun i hi => (ls[i], vns i, vas i)) (fun i hi => List.mem_range.1 hi), h1, h3, ?_, ?_, ?_⟩
    · refine List.ext_getElem (by simp) fun i h5 h6 => ?_
      simp
    · intro j u hj
      have hlen : ((List.range ls.length).pmap (fun i (hi : i < ls.length) => (ls[i], vns i, vas i)) (fun i hi => List.mem_range.1 hi)).length = ls.length := by simp
      have hjl := (List.getElem?_eq_some_iff.1 hj).1
      rw [rowX_len, hlen] at hjl
      have hil : j / 3 < ls.length := by omega
      have hget : ((List.range ls.length).pmap (fun i (hi : i < ls.length) => (ls[i], vns i, vas i)) (fun i hi => List.mem_range.1 hi))[j / 3]? = some (ls[j / 3], vns (j / 3), vas (j / 3)) := by
        rw [List.getElem?_eq_getElem (by simpa using hil)]
        simp
      obtain ⟨q0, q1, q2⟩ := rowX_at _ _ _ hget
      obtain ⟨c0, c1, c2⟩ := h4 (j / 3) _ (List.getElem?_eq_getElem hil)
      have hm : j % 3 = 0 ∨ j % 3 = 1 ∨ j % 3 = 2 := by omega
      rcases hm with hm | hm | hm
      · have e : j = j / 3 * 3 := by omega
        rw [e] at hj ⊢
        rw [q0] at hj
        injection hj with hj
        rw [← hj, c0]
      · have e : j = j / 3 * 3 + 1 := by omega
        rw [e] at hj ⊢
        rw [q1] at hj
        injection hj with hj
        rw [← hj, ← Nat.add_assoc, c1]
      · have e : j = j / 3 * 3 + 2 := by omega
        rw [e] at hj ⊢
        rw [q2] at hj
        injection hj with hj
        rw [← hj, ← Nat.add_assoc, c2]
    · intro x hx
      obtain ⟨i, hi, rfl⟩ := List.mem_pmap.1 hx
      exact h2 i _ (List.getElem?_eq_getElem (List.mem_range.1 hi))
theorem rowX_one {W : World} {xs : List (Ty × Value × Value)} (h : ∀ x ∈ xs, TyAt W x.2.1 x.2.2 x.1) : ∀ u ∈ rowX xs, u.oneCell' = true := by
  intro u hu
  unfold rowX at hu
  obtain ⟨x, hx, hux⟩ := List.mem_flatMap.1 hu
  exact one_of (h x hx) u hux
/-- A copy of cells: a block of one's own. -/
def CopyOf (w : World) (t : TypeId) (n : Nat) (cs : List Value) (e : Ending) (w' : World) : Prop :=
  ∃ g c, e = .returned (.slice (some ⟨g, 0, none⟩) n c) ∧ n ≤ c ∧ w.heap.size ≤ g ∧ (∃ ds, Has w' g t ds ∧ ds.take cs.length = cs ∧ cs.length ≤ ds.length) ∧ Below w.heap.size w w'
theorem copy_own {w w' : World} {t : TypeId} {size n : Nat} {v : Value} {cs : List Value} (h : w'.ownsRow w.heap.size t size v n cs) (h0 : 0 < n) (hb : Below w.heap.size w w') (hl : cs.length = n * size) : CopyOf w t n cs (.returned v) w' := by
  rcases own_shape h with ⟨-, h2, -⟩ | ⟨g, cap, ds, rfl, h2, h3, h4, h5, h6, h7⟩
  · omega
  · refine ⟨g, cap, rfl, h4, h2, ⟨ds, h3, by rw [hl]; exact h7, ?_⟩, hb⟩
    rw [h6, hl]
    exact Nat.mul_le_mul_right _ h4
set_option maxRecDepth 100000 in
set_option maxHeartbeats 4000000 in
theorem cloneS_any (l : List ByteArray) (av : Option Addr) (c : Nat) (w : World) (h : StrsAt w (.slice av l.length c) l) (h0 : l ≠ []) (hn : l.length ≤ 1000000) : Calls Tryd.prog 61 #[.slice av l.length c] w (CopyOf w 9 l.length (l.map Value.string)) := by
  obtain ⟨i0, hi, hz0, hz1, hz2⟩ := info_parts infoString
  have qT : ∀ (w : World) (a : Option Addr) (n c n' c' : Nat), (binOp .eql 22 (.slice a n c) (.slice none n' c')).run Tryd.prog w = .ok (.bool a.isNone) w := fun w a n c n' c' => Lib.run_eql_slice_nil w _ _ a n c n' c' Tryd.underlying22
  obtain ⟨av2, cap, e, hc, hc2, hc3, h1⟩ := h
  injection e with e1 e2 e3
  subst e1 e3
  rcases h1 with h1 | ⟨g, o, rfl, hg, hcell⟩
  · exact absurd h1 h0
  have hown0 : (w.alloc (.cells #[] 9)).ownsRow w.heap.size 9 1 (.slice (some ⟨w.heap.size, 0, none⟩) 0 0) 0 [] := own_of (cs := []) (Nat.le_refl _) (Has.new w 9 []) (Nat.le_refl _) (by unfold maxLen; omega) rfl rfl
  have hb0 : Below w.heap.size w (w.alloc (.cells #[] 9)) := (Below.refl _ w).alloc (Nat.le_refl _) _
  obtain ⟨v2, w2, hrun, ho, hgr, -, -⟩ := run_append_own_at (P := Tryd.prog) (w := w.alloc (.cells #[] 9)) w.heap.size 22 22 9 i0 (.string ⟨#[]⟩) 1 16 Tryd.underlying22 hi hz0 hz1 hz2 rfl (by decide) _ 0 [] hown0 ⟨g, o, none⟩ l.length c (l.map Value.string) (by simp)
    (fun j u hj => by
      rw [List.getElem?_map] at hj
      obtain ⟨x, hx, rfl⟩ := Option.map_eq_some_iff.1 hj
      rw [addr_at]
      exact (hb0.cell (p := ⟨g, o + j, none⟩) hg).trans (hcell j x hx))
    (fun u hu => by obtain ⟨x, _, rfl⟩ := List.mem_map.1 hu; rfl) (by unfold maxLen; omega) (by omega) (by simp)
  have HR := Lib.hid hrun
  have HS : Hid (CopyOf w 9 l.length (l.map Value.string) (.returned v2) w2) := Lib.hid (copy_own (size := 1) (by simpa using ho) (List.length_pos_iff.2 h0) (hb0.trans ((Keeps.grown hgr).toBelow w.heap.size (by simp) (by simp [Value.ownBlock]))) (by simp))
  clear hc3 hrun ho hgr hown0 hb0 hcell h0
  go_enter Tryd.func61, Tryd.ntmps61
  go_wp2_with (at_builtin; refine wpList_append_run (by rfl) (.tmp 5) (.tmp 6) 22 rfl _ _ _ _ rfl rfl HR.out ?_)
  go_ret
  exact HS.out
set_option maxRecDepth 100000 in
set_option maxHeartbeats 4000000 in
theorem cloneT_any (xs : List (Ty × Value × Value)) (b o n c : Nat) (w : World) (hxn : xs.length = n) (h0 : 0 < n) (hn : n ≤ 1000000) (hb : b < w.heap.size) (hcell : ∀ j u, (rowX xs)[j]? = some u → w.cell? ⟨b, o + j, none⟩ = some u) (hty : ∀ x ∈ xs, TyAt w x.2.1 x.2.2 x.1) :
    Calls Tryd.prog 95 #[.slice (some ⟨b, o, none⟩) n c] w (CopyOf w 25 n (rowX xs)) := by
  obtain ⟨i0, hi, hz0, hz1, hz2⟩ := info_parts infoTy
  have qT : ∀ (w : World) (a : Option Addr) (n c n' c' : Nat), (binOp .eql 23 (.slice a n c) (.slice none n' c')).run Tryd.prog w = .ok (.bool a.isNone) w := fun w a n c n' c' => Lib.run_eql_slice_nil w _ _ a n c n' c' Tryd.underlying23
  have hown0 : (w.alloc (.cells #[] 25)).ownsRow w.heap.size 25 3 (.slice (some ⟨w.heap.size, 0, none⟩) 0 0) 0 [] := own_of (cs := []) (Nat.le_refl _) (Has.new w 25 []) (Nat.le_refl _) (by unfold maxLen; omega) rfl rfl
  have hb0 : Below w.heap.size w (w.alloc (.cells #[] 25)) := (Below.refl _ w).alloc (Nat.le_refl _) _
  have hlen := rowX_len xs
  rw [hxn] at hlen
  obtain ⟨v2, w2, hrun, ho, hgr, -, -⟩ := run_append_own_at (P := Tryd.prog) (w := w.alloc (.cells #[] 25)) w.heap.size 23 23 25 i0 (.agg #[.int .i64 0, .slice none 0 0, .slice none 0 0]) 3 56 Tryd.underlying23 hi hz0 hz1 hz2 rfl (by decide) _ 0 [] hown0 ⟨b, o, none⟩ n c (rowX xs) hlen
    (fun j u hj => by
      rw [addr_at]
      exact (hb0.cell (p := ⟨b, o + j, none⟩) hb).trans (hcell j u hj))
    (rowX_one hty) (by unfold maxLen; omega) (by omega) (by simp)
  have HR := Lib.hid hrun
  have HS : Hid (CopyOf w 25 n (rowX xs) (.returned v2) w2) := Lib.hid (copy_own (size := 3) (by simpa using ho) h0 (hb0.trans ((Keeps.grown hgr).toBelow w.heap.size (by simp) (by simp [Value.ownBlock]))) hlen)
  clear hrun ho hgr hown0 hb0 hcell h0 hty hxn hlen
  go_enter Tryd.func95, Tryd.ntmps95
  go_wp2_with (at_builtin; refine wpList_append_run (by rfl) (.tmp 5) (.tmp 6) 23 rfl _ _ _ _ rfl rfl HR.out ?_)
  go_ret
  exact HS.out
theorem clipS_any (g n c : Nat) (w : World) (hn : n ≤ c) : Calls Tryd.prog 92 #[.slice (some ⟨g, 0, none⟩) n c] w fun e w' => e = .returned (.slice (some ⟨g, 0, none⟩) n n) ∧ w = w' := by
  have h1 : (n : Int) ≤ (c : Int) := by omega
  have h0 : (0 : Int) ≤ (n : Int) := by omega
  go_enter Tryd.func92, Tryd.ntmps92
  go_wp2
  go_ret
  exact ⟨rfl, rfl⟩
theorem clipT_any (g n c : Nat) (w : World) (hn : n ≤ c) : Calls Tryd.prog 94 #[.slice (some ⟨g, 0, none⟩) n c] w fun e w' => e = .returned (.slice (some ⟨g, 0, none⟩) n n) ∧ w = w' := by
  have h1 : (n : Int) ≤ (c : Int) := by omega
  have h0 : (0 : Int) ≤ (n : Int) := by omega
  go_enter Tryd.func94, Tryd.ntmps94
  go_wp2
  go_ret
  exact ⟨rfl, rfl⟩
theorem whichS_any (b o n c : Nat) (w : World) (h0 : 0 < n) : Calls Tryd.prog 91 #[.slice (some ⟨b, o, none⟩) n c] w fun e w' => e = .returned (.agg #[.pointer (some ⟨b, o, none⟩), .int .i64 (n : Int)]) ∧ Below w.heap.size w w' := by
  have h1 : (0 : Int) < (n : Int) := by omega
  go_enter Tryd.func91, Tryd.ntmps91
  go_wp2
  refine bodyPost_ret (v := .agg #[.pointer (some ⟨b, o, none⟩), .int .i64 (n : Int)]) (by simp [results, Tryd.results91, go_sem]) rfl ⟨rfl, ?_⟩
  repeat (first | exact Below.refl _ _ | refine Below.setCell ?_ (by simp) _ | refine Below.alloc ?_ (by simp) _)
theorem whichT_any (b o n c : Nat) (w : World) (h0 : 0 < n) : Calls Tryd.prog 93 #[.slice (some ⟨b, o, none⟩) n c] w fun e w' => e = .returned (.agg #[.pointer (some ⟨b, o, none⟩), .int .i64 (n : Int)]) ∧ Below w.heap.size w w' := by
  have h1 : (0 : Int) < (n : Int) := by omega
  go_enter Tryd.func93, Tryd.ntmps93
  go_wp2
  refine bodyPost_ret (v := .agg #[.pointer (some ⟨b, o, none⟩), .int .i64 (n : Int)]) (by simp [results, Tryd.results93, go_sem]) rfl ⟨rfl, ?_⟩
  repeat (first | exact Below.refl _ _ | refine Below.setCell ?_ (by simp) _ | refine Below.alloc ?_ (by simp) _)
end TyD
end Go.Proofs.YthcdbmbimdkcfaaDoor

namespace Go.Proofs.YthcdbmbimdkcfaaDoor
open Go.RowKit ObjM
namespace TyD
open LexD (WTab)

/-- A copy that is paid for. -/
def PaidIs (w : World) (C lf : Nat) (t : TypeId) (n : Nat) (cs : List Value) (e : Ending) (w' : World) : Prop :=
  ∃ g, e = .returned (.tuple #[.slice (some ⟨g, 0, none⟩) n n, .bool true]) ∧ w.heap.size ≤ g ∧ (∃ ds, Has w' g t ds ∧ ds.take cs.length = cs ∧ cs.length ≤ ds.length) ∧ Keeps [C] w w' ∧ Has w' C 47 [.int .i64 (lf : Int), .bool false, .map none, .map none]

theorem copiedS_no (av : Option Addr) (c C : Nat) (w : World) : Calls Tryd.prog 76 #[.pointer (some ⟨C, 0, none⟩), .map none, .slice av 0 c, .int .i64 16] w fun e w' => e = .returned (.tuple #[.slice none 0 0, .bool false]) ∧ w = w' := by
  go_enter Tryd.func76, Tryd.ntmps76
  go_wp2
  go_ret2
  exact ⟨rfl, rfl⟩
set_option maxRecDepth 100000 in
set_option maxHeartbeats 4000000 in
theorem copiedS_some (cs : List Value) (b o n c C left : Nat) (w : World) (h0 : 0 < n) (hn : n ≤ 1000000) (hl : n * 16 ≤ left) (hl2 : left ≤ 1000000000) (hC : Has w C 47 [.int .i64 (left : Int), .bool false, .map none, .map none])
    (HCl : ∀ W, Keeps [C] w W → Calls Tryd.prog 61 #[.slice (some ⟨b, o, none⟩) n c] W (CopyOf W 9 n cs)) :
    Calls Tryd.prog 76 #[.pointer (some ⟨C, 0, none⟩), .map none, .slice (some ⟨b, o, none⟩) n c, .int .i64 16] w (PaidIs w C (left - n * 16) 9 n cs) := by
  have hlk : ∀ (W : World), (Instr.lookup 45 (.map none) (.agg #[.pointer (some ⟨b, o, none⟩), .int .i64 (n : Int)]) true).run Tryd.prog W = .ok (.tuple #[.slice none 0 0, .bool false]) W := fun _ => by kernel_rfl
  have hmn : ∀ (W : World), (binOp .neq 45 (.map none) (.map none)).run Tryd.prog W = .ok (.bool false) W := fun _ => by kernel_rfl
  obtain ⟨lf, hlf⟩ : ∃ lf, left - n * 16 = lf := ⟨_, rfl⟩
  rw [hlf]
  have hleft : left = lf + n * 16 := by omega
  have HWh := Lib.hid (whichS_any b o n c w h0)
  have HCl2 := Lib.hid HCl
  have HC := Lib.hid hC
  have hn0 : ((n : Int) == 0) = false := by simp; omega
  have hn0i : (0 : Int) ≤ (n : Int) := by omega
  have hni : (n : Int) ≤ 1000000 := by omega
  have hq : decide ((left : Int) / 16 < (n : Int)) = false := by simp; omega
  have hl0 : (0 : Int) ≤ (left : Int) := by omega
  have hli : (left : Int) ≤ 1000000000 := by omega
  have HE : Hid ((left : Int) - (n : Int) * 16 = (lf : Int)) := Lib.hid (by omega)
  have hge : (0 : Int) ≤ (left : Int) - (n : Int) * 16 := by omega
  clear HCl hC hlf hleft hl hl2
  go_enter Tryd.func76, Tryd.ntmps76
  go_wp2_with fail
  refine (HWh.out).mono ?_
  rintro e w1 ⟨rfl, hb1⟩
  have hC1 := HC.out.below hb1 HC.out.lt
  have c0 := hC1.cell 0
  have f0 := hC1.frozen 0
  have lc := hC1.lt
  simp only [List.getElem?_cons_zero] at c0
  have HK2 : Hid (Keeps [C] w (w1.setCell ⟨C, 0, none⟩ (.int .i64 (lf : Int))) ∧ Has (w1.setCell ⟨C, 0, none⟩ (.int .i64 (lf : Int))) C 47 [.int .i64 (lf : Int), .bool false, .map none, .map none]) := Lib.hid ⟨(Keeps.below' hb1 [C]).trans (Keeps.set w1 C 0 _) (fun _ h => .inl h), hC1.set 0 _⟩
  clear hb1 hC1 HC HWh
  go_wp2_with fail
  rw [HE.out]
  refine (HCl2.out _ HK2.out.1).mono ?_
  rintro e w2 ⟨g, c2, rfl, hc2, hg, hds, hb2⟩
  have HF : Hid (PaidIs w C lf 9 n cs (.returned (.tuple #[.slice (some ⟨g, 0, none⟩) n n, .bool true])) w2) := Lib.hid ⟨g, rfl, Nat.le_trans HK2.out.1.size hg, hds, HK2.out.1.trans (Keeps.below' hb2 [C]) (fun _ h => .inl h), HK2.out.2.below hb2 HK2.out.2.lt⟩
  have HCp := Lib.hid (clipS_any g n c2 w2 hc2)
  clear hc2 hg hds hb2 HK2 HCl2 c0 f0 lc
  go_wp2_with fail
  refine (HCp.out).mono ?_
  rintro e w3 ⟨rfl, rfl⟩
  go_wp2
  go_ret2
  exact HF.out

theorem copiedT_no (av : Option Addr) (c C : Nat) (w : World) : Calls Tryd.prog 77 #[.pointer (some ⟨C, 0, none⟩), .map none, .slice av 0 c, .int .i64 56] w fun e w' => e = .returned (.tuple #[.slice none 0 0, .bool false]) ∧ w = w' := by
  go_enter Tryd.func77, Tryd.ntmps77
  go_wp2
  go_ret2
  exact ⟨rfl, rfl⟩
set_option maxRecDepth 100000 in
set_option maxHeartbeats 4000000 in
theorem copiedT_some (cs : List Value) (b o n c C left : Nat) (w : World) (h0 : 0 < n) (hn : n ≤ 1000000) (hl : n * 56 ≤ left) (hl2 : left ≤ 1000000000) (hC : Has w C 47 [.int .i64 (left : Int), .bool false, .map none, .map none])
    (HCl : ∀ W, Keeps [C] w W → Calls Tryd.prog 95 #[.slice (some ⟨b, o, none⟩) n c] W (CopyOf W 25 n cs)) :
    Calls Tryd.prog 77 #[.pointer (some ⟨C, 0, none⟩), .map none, .slice (some ⟨b, o, none⟩) n c, .int .i64 56] w (PaidIs w C (left - n * 56) 25 n cs) := by
  have hlk : ∀ (W : World), (Instr.lookup 44 (.map none) (.agg #[.pointer (some ⟨b, o, none⟩), .int .i64 (n : Int)]) true).run Tryd.prog W = .ok (.tuple #[.slice none 0 0, .bool false]) W := fun _ => by kernel_rfl
  have hmn : ∀ (W : World), (binOp .neq 44 (.map none) (.map none)).run Tryd.prog W = .ok (.bool false) W := fun _ => by kernel_rfl
  obtain ⟨lf, hlf⟩ : ∃ lf, left - n * 56 = lf := ⟨_, rfl⟩
  rw [hlf]
  have hleft : left = lf + n * 56 := by omega
  have HWh := Lib.hid (whichT_any b o n c w h0)
  have HCl2 := Lib.hid HCl
  have HC := Lib.hid hC
  have hn0 : ((n : Int) == 0) = false := by simp; omega
  have hn0i : (0 : Int) ≤ (n : Int) := by omega
  have hni : (n : Int) ≤ 1000000 := by omega
  have hq : decide ((left : Int) / 56 < (n : Int)) = false := by simp; omega
  have hl0 : (0 : Int) ≤ (left : Int) := by omega
  have hli : (left : Int) ≤ 1000000000 := by omega
  have HE : Hid ((left : Int) - (n : Int) * 56 = (lf : Int)) := Lib.hid (by omega)
  have hge : (0 : Int) ≤ (left : Int) - (n : Int) * 56 := by omega
  clear HCl hC hlf hleft hl hl2
  go_enter Tryd.func77, Tryd.ntmps77
  go_wp2_with fail
  refine (HWh.out).mono ?_
  rintro e w1 ⟨rfl, hb1⟩
  have hC1 := HC.out.below hb1 HC.out.lt
  have c0 := hC1.cell 0
  have f0 := hC1.frozen 0
  have lc := hC1.lt
  simp only [List.getElem?_cons_zero] at c0
  have HK2 : Hid (Keeps [C] w (w1.setCell ⟨C, 0, none⟩ (.int .i64 (lf : Int))) ∧ Has (w1.setCell ⟨C, 0, none⟩ (.int .i64 (lf : Int))) C 47 [.int .i64 (lf : Int), .bool false, .map none, .map none]) := Lib.hid ⟨(Keeps.below' hb1 [C]).trans (Keeps.set w1 C 0 _) (fun _ h => .inl h), hC1.set 0 _⟩
  clear hb1 hC1 HC HWh
  go_wp2_with fail
  rw [HE.out]
  refine (HCl2.out _ HK2.out.1).mono ?_
  rintro e w2 ⟨g, c2, rfl, hc2, hg, hds, hb2⟩
  have HF : Hid (PaidIs w C lf 25 n cs (.returned (.tuple #[.slice (some ⟨g, 0, none⟩) n n, .bool true])) w2) := Lib.hid ⟨g, rfl, Nat.le_trans HK2.out.1.size hg, hds, HK2.out.1.trans (Keeps.below' hb2 [C]) (fun _ h => .inl h), HK2.out.2.below hb2 HK2.out.2.lt⟩
  have HCp := Lib.hid (clipT_any g n c2 w2 hc2)
  clear hc2 hg hds hb2 HK2 HCl2 c0 f0 lc
  go_wp2_with fail
  refine (HCp.out).mono ?_
  rintro e w3 ⟨rfl, rfl⟩
  go_wp2
  go_ret2
  exact HF.out
end TyD
end Go.Proofs.YthcdbmbimdkcfaaDoor

namespace Go.Proofs.YthcdbmbimdkcfaaDoor
open Go.RowKit ObjM
namespace TyD
open LexD (WTab)

/-- A type whose lists are still the elder ones. -/
structure Pend where
  blk : Nat
  off : Nat
  r : Nat
  t : Ty
  vn : Value
  va : Value
def Pend.ptr (p : Pend) : Value := .pointer (some ⟨p.blk, p.off, none⟩)
structure PendAt (w0 W : World) (B : Nat) (p : Pend) : Prop where
  low : B ≤ p.blk
  has : ∃ ds, Has W p.blk 25 ds ∧ p.off + 2 < ds.length ∧ ds[p.off]? = some (.int .i64 p.t.kind) ∧ ds[p.off + 1]? = some p.vn ∧ ds[p.off + 2]? = some p.va
  ty : TyAt w0 p.vn p.va p.t
  valid : validB p.r p.t = true
def owe (l : List Pend) : Nat := (l.map fun p => sizeF p.r p.t).sum
def due (l : List Pend) : Nat := (l.map fun p => sizeF p.r p.t - 1).sum
theorem owe_snoc (l : List Pend) (p : Pend) : owe (l ++ [p]) = owe l + sizeF p.r p.t := by simp [owe]
theorem due_snoc (l : List Pend) (p : Pend) : due (l ++ [p]) = due l + (sizeF p.r p.t - 1) := by simp [due]
theorem owe_app (l k : List Pend) : owe (l ++ k) = owe l + owe k := by simp [owe]
theorem due_app (l k : List Pend) : due (l ++ k) = due l + due k := by simp [due]
def RootOk (W : World) (G : Nat) (t : Ty) : Prop := ∃ vn va, W.cell? ⟨G, 0, none⟩ = some (.int .i64 t.kind) ∧ W.cell? ⟨G, 1, none⟩ = some vn ∧ W.cell? ⟨G, 2, none⟩ = some va ∧ TyAt W vn va t
def PendOk (W : World) (p : Pend) : Prop := ∃ vn va, W.cell? ⟨p.blk, p.off + 1, none⟩ = some vn ∧ W.cell? ⟨p.blk, p.off + 2, none⟩ = some va ∧ TyAt W vn va p.t
def Spare (l : List Pend) (k i : Nat) : Prop := ∀ p ∈ l, p.blk = k → i ≠ p.off + 1 ∧ i ≠ p.off + 2
/-- Whatever world follows: if what is settled stays, and what is still to be copied is copied, the whole is there. -/
structure Comp (W : World) (G : Nat) (t : Ty) (D : Nat → Prop) (l : List Pend) : Prop where
  low : ∀ k, D k → k < W.heap.size
  pd : ∀ p ∈ l, D p.blk
  apart : l.Pairwise fun p q => p.blk = q.blk → p.off + 2 < q.off ∨ q.off + 2 < p.off
  fin : ∀ W' : World, W.heap.size ≤ W'.heap.size → (∀ k i, D k → Spare l k i → W'.cell? ⟨k, i, none⟩ = W.cell? ⟨k, i, none⟩) → (∀ p ∈ l, PendOk W' p) → RootOk W' G t
theorem cell_of_heap {W W' : World} {k : Nat} (h : W'.heap[k]? = W.heap[k]?) (i : Nat) : W'.cell? ⟨k, i, none⟩ = W.cell? ⟨k, i, none⟩ := by
  simp [World.cell?, h]
theorem Comp.agree {W W' : World} {G : Nat} {t : Ty} {D : Nat → Prop} {l : List Pend} (h : Comp W G t D l) (hs : W.heap.size ≤ W'.heap.size) (hag : ∀ k, D k → W'.heap[k]? = W.heap[k]?) : Comp W' G t D l :=
  ⟨fun k hk => Nat.lt_of_lt_of_le (h.low k hk) hs, h.pd, h.apart, fun V hV hc hp => h.fin V (Nat.le_trans hs hV) (fun k i hk hsp => (hc k i hk hsp).trans (cell_of_heap (hag k hk) i)) hp⟩
theorem PendAt.agree {w0 W W' : World} {B : Nat} {p : Pend} (h : PendAt w0 W B p) (hag : W'.heap[p.blk]? = W.heap[p.blk]?) : PendAt w0 W' B p := by
  obtain ⟨ds, h1, h2⟩ := h.has
  exact ⟨h.low, ⟨ds, hag.trans h1, h2⟩, h.ty, h.valid⟩
/-- The beginning: the whole is to be copied. -/
theorem Comp.start {W : World} {G r : Nat} {t : Ty} {vn va : Value} (h : Has W G 25 [.int .i64 t.kind, vn, va]) : Comp W G t (fun k => k = G) [⟨G, 0, r, t, vn, va⟩] := by
  refine ⟨fun k hk => hk ▸ h.lt, fun p hp => by simp at hp; subst hp; rfl, List.pairwise_singleton _ _, fun V hV hc hp => ?_⟩
  obtain ⟨vn', va', h1, h2, h3⟩ := hp _ (List.mem_singleton.2 rfl)
  refine ⟨vn', va', ?_, h1, h2, h3⟩
  rw [hc G 0 rfl (fun p hp _ => by simp at hp; subst hp; simp), h.cell]
  rfl
/-- The names that were laid. -/
def NewNames (n₀ : Nat) (W : World) (vn : Value) (ns : List ByteArray) : Prop :=
  (ns = [] ∧ vn = .slice none 0 0) ∨ ∃ g ds, vn = .slice (some ⟨g, 0, none⟩) ns.length ns.length ∧ n₀ ≤ g ∧ Has W g 9 ds ∧ ds.take ns.length = ns.map Value.string
/-- The arguments that were laid, their lists still the elder ones. -/
def NewArgs (n₀ : Nat) (W : World) (va : Value) (xs : List (Ty × Value × Value)) : Prop :=
  (xs = [] ∧ va = .slice none 0 0) ∨ ∃ g ds, va = .slice (some ⟨g, 0, none⟩) xs.length xs.length ∧ n₀ ≤ g ∧ Has W g 25 ds ∧ ds.take (rowX xs).length = rowX xs
def kidsOf (va : Value) (r : Nat) (xs : List (Ty × Value × Value)) : List Pend := match va.ownBlock with
  | some g => (xs.zipIdx).map fun x => ⟨g, x.2 * 3, r, x.1.1, x.1.2.1, x.1.2.2⟩
  | none => []
theorem kidsOf_some (g n c : Nat) (r : Nat) (xs : List (Ty × Value × Value)) : kidsOf (.slice (some ⟨g, 0, none⟩) n c) r xs = (xs.zipIdx).map fun x => ⟨g, x.2 * 3, r, x.1.1, x.1.2.1, x.1.2.2⟩ := rfl
theorem takeGet {α : Type} {ds cs : List α} {n i : Nat} (h : ds.take n = cs) (x : α) (hi : cs[i]? = some x) : ds[i]? = some x := by
  rw [← h, List.getElem?_take] at hi
  split at hi
  · exact hi
  · cases hi
theorem kid_cells {ds : List Value} {xs : List (Ty × Value × Value)} (h : ds.take (rowX xs).length = rowX xs) {i : Nat} {x : Ty × Value × Value} (hx : xs[i]? = some x) : ds[i * 3]? = some (.int .i64 x.1.kind) ∧ ds[i * 3 + 1]? = some x.2.1 ∧ ds[i * 3 + 2]? = some x.2.2 := by
  obtain ⟨q0, q1, q2⟩ := rowX_at xs i x hx
  exact ⟨takeGet h _ q0, takeGet h _ q1, takeGet h _ q2⟩
theorem kid_mem {g n c r : Nat} {xs : List (Ty × Value × Value)} {p : Pend} (h : p ∈ kidsOf (.slice (some ⟨g, 0, none⟩) n c) r xs) : ∃ i x, xs[i]? = some x ∧ p = ⟨g, i * 3, r, x.1, x.2.1, x.2.2⟩ := by
  rw [kidsOf_some] at h
  obtain ⟨⟨x, i⟩, hx, rfl⟩ := List.mem_map.1 h
  exact ⟨i, x, List.mem_zipIdx_iff_getElem?.1 hx, rfl⟩
theorem kidsOf_pend {w0 W : World} {n₀ B r : Nat} {va : Value} {xs : List (Ty × Value × Value)} (h : NewArgs n₀ W va xs) (hB : B ≤ n₀) (hty : ∀ x ∈ xs, TyAt w0 x.2.1 x.2.2 x.1) (hv : ∀ x ∈ xs, validB r x.1 = true) : ∀ p ∈ kidsOf va r xs, PendAt w0 W B p := by
  intro p hp
  rcases h with ⟨rfl, rfl⟩ | ⟨g, ds, rfl, hg, hh, ht⟩
  · cases hp
  · obtain ⟨i, x, hx, rfl⟩ := kid_mem hp
    obtain ⟨c0, c1, c2⟩ := kid_cells ht hx
    have hm := List.mem_of_getElem? hx
    exact ⟨by show B ≤ g; omega, ⟨ds, hh, (List.getElem?_eq_some_iff.1 c2).1, c0, c1, c2⟩, hty x hm, hv x hm⟩
theorem zip_sum {f : Ty → Nat} (g r : Nat) : ∀ (xs : List (Ty × Value × Value)) (k : Nat), (((xs.zipIdx k).map fun x => (⟨g, x.2 * 3, r, x.1.1, x.1.2.1, x.1.2.2⟩ : Pend)).map fun p => f p.t).sum = ((xs.map (·.1)).map f).sum
  | [], _ => rfl
  | x :: l, k => by
    rw [List.zipIdx_cons, List.map_cons, List.map_cons, List.sum_cons, zip_sum g r l (k + 1)]
    rfl
theorem kids_apart (g r : Nat) : ∀ (xs : List (Ty × Value × Value)) (k : Nat), ((xs.zipIdx k).map fun x => (⟨g, x.2 * 3, r, x.1.1, x.1.2.1, x.1.2.2⟩ : Pend)).Pairwise fun p q => p.blk = q.blk → p.off + 2 < q.off ∨ q.off + 2 < p.off
  | [], _ => List.Pairwise.nil
  | x :: l, k => by
    rw [List.zipIdx_cons, List.map_cons]
    refine List.Pairwise.cons ?_ (kids_apart g r l (k + 1))
    intro p hp _
    obtain ⟨⟨y, j⟩, hj, rfl⟩ := List.mem_map.1 hp
    have := List.le_snd_of_mem_zipIdx hj
    simp only
    simp only at this
    omega
/-- One is taken off: its names are copied, and its arguments' row; they are still to be copied. -/
theorem Comp.step {W W9 : World} {G : Nat} {t : Ty} {D : Nat → Prop} {l : List Pend} {p : Pend} {vn va : Value} {q : Nat} {xs : List (Ty × Value × Value)} (h : Comp W G t D (l ++ [p])) (hxs : xs.map (·.1) = p.t.args) (hsm : p.t.names.length ≤ 1000000 ∧ p.t.args.length ≤ 1000000) (hs : W.heap.size ≤ W9.heap.size)
    (hn : NewNames W.heap.size W9 vn p.t.names) (ha : NewArgs W.heap.size W9 va xs) (hdiff : ∀ g, vn.ownBlock = some g → va.ownBlock ≠ some g)
    (hcell : ∀ k i, D k → (k = p.blk → i ≠ p.off + 1 ∧ i ≠ p.off + 2) → W9.cell? ⟨k, i, none⟩ = W.cell? ⟨k, i, none⟩) (h1 : W9.cell? ⟨p.blk, p.off + 1, none⟩ = some vn) (h2 : W9.cell? ⟨p.blk, p.off + 2, none⟩ = some va) :
    Comp W9 G t (fun k => D k ∨ vn.ownBlock = some k ∨ va.ownBlock = some k) (l ++ kidsOf va q xs) := by
  have hkb : ∀ x ∈ kidsOf va q xs, va.ownBlock = some x.blk ∧ W.heap.size ≤ x.blk := by
    intro x hx
    rcases ha with ⟨rfl, rfl⟩ | ⟨g, ds, rfl, hg, -, -⟩
    · cases hx
    · obtain ⟨i, y, -, rfl⟩ := kid_mem hx
      exact ⟨rfl, hg⟩
  have hlD : ∀ x ∈ l, D x.blk := fun x hx => h.pd x (List.mem_append_left _ hx)
  have hlow := h.low
  have hpD : D p.blk := h.pd p (List.mem_append_right _ (List.mem_singleton.2 rfl))
  have happ := List.pairwise_append.1 h.apart
  refine ⟨?_, ?_, ?_, ?_⟩
  · intro k hk
    rcases hk with hk | hk | hk
    · exact Nat.lt_of_lt_of_le (hlow k hk) hs
    · rcases hn with ⟨-, rfl⟩ | ⟨g, ds, rfl, -, hh, -⟩
      · cases hk
      · injection hk with hk
        exact hk ▸ hh.lt
    · rcases ha with ⟨-, rfl⟩ | ⟨g, ds, rfl, -, hh, -⟩
      · cases hk
      · injection hk with hk
        exact hk ▸ hh.lt
  · intro x hx
    rcases List.mem_append.1 hx with hx | hx
    · exact .inl (hlD x hx)
    · exact .inr (.inr (hkb x hx).1)
  · refine List.pairwise_append.2 ⟨happ.1, ?_, ?_⟩
    · rcases ha with ⟨rfl, rfl⟩ | ⟨g, ds, rfl, -, -, -⟩
      · exact List.Pairwise.nil
      · exact kids_apart g q xs 0
    · intro x hx y hy e
      have := hlow _ (hlD x hx)
      have := (hkb y hy).2
      omega
  · intro V hV hc hp
    have hcD : ∀ k i, D k → Spare l k i → V.cell? ⟨k, i, none⟩ = W9.cell? ⟨k, i, none⟩ := by
      intro k i hk hsp
      refine hc k i (.inl hk) fun x hx e => ?_
      rcases List.mem_append.1 hx with hx | hx
      · exact hsp x hx e
      · have := (hkb x hx).2
        have := hlow k hk
        omega
    refine h.fin V (Nat.le_trans hs hV) ?_ ?_
    · intro k i hk hsp
      have hsl : Spare l k i := fun x hx => hsp x (List.mem_append_left _ hx)
      exact (hcD k i hk hsl).trans (hcell k i hk fun e => hsp p (List.mem_append_right _ (List.mem_singleton.2 rfl)) e.symm)
    · intro x hx
      rcases List.mem_append.1 hx with hx | hx
      · exact hp x (List.mem_append_left _ hx)
      · rw [List.mem_singleton] at hx
        subst hx
        have hsp : ∀ i, x.off ≤ i → i ≤ x.off + 2 → Spare l x.blk i := by
          intro i h3 h4 y hy e
          have := happ.2.2 y hy x (List.mem_singleton.2 rfl) e
          omega
        refine ⟨vn, va, (hcD _ _ hpD (hsp _ (by omega) (by omega))).trans h1, (hcD _ _ hpD (hsp _ (by omega) (by omega))).trans h2, ?_⟩
        have hfar : ∀ g, W.heap.size ≤ g → (va.ownBlock ≠ some g) → ∀ i, Spare (l ++ kidsOf va q xs) g i := by
          intro g hg hne i y hy e
          rcases List.mem_append.1 hy with hy | hy
          · have := hlow _ (hlD y hy)
            omega
          · have := (hkb y hy).1
            exact absurd (e ▸ this) hne
        obtain ⟨kd, ns, ts⟩ : ∃ kd ns ts, x.t = .mk kd ns ts := ⟨_, _, _, x.t.eta⟩
        obtain ⟨ts, hx1⟩ := ts
        rw [hx1] at hxs hn hsm ⊢
        simp only [Ty.names, Ty.args] at hsm
        refine TyAt.of ?_ ?_
        · rcases hn with ⟨h5, rfl⟩ | ⟨g, ds, rfl, hg, hh, ht⟩
          · simp only [Ty.names] at h5
            rw [h5]
            exact StrsAt.nil V
          · simp only [Ty.names] at ht ⊢
            refine ⟨_, _, rfl, Nat.le_refl _, ?_, fun e => by simp at e, .inr ⟨g, 0, rfl, ?_, fun i s hi => ?_⟩⟩
            · show ns.length ≤ _
              omega
            · exact Nat.lt_of_lt_of_le hh.lt hV
            · rw [Nat.zero_add, hc g i (.inr (.inl rfl)) (hfar g hg (hdiff g rfl) i), hh.cell]
              exact takeGet ht _ (by rw [List.getElem?_map, hi]; rfl)
        · rcases ha with ⟨rfl, rfl⟩ | ⟨g, ds, rfl, hg, hh, ht⟩
          · simp only [List.map_nil, Ty.args] at hxs
            rw [← hxs]
            exact TysAt.nil V
          · have hkid : ∀ i y, xs[i]? = some y → PendOk V ⟨g, i * 3, q, y.1, y.2.1, y.2.2⟩ := by
              intro i y hy
              refine hp _ (List.mem_append_right _ ?_)
              rw [kidsOf_some]
              exact List.mem_map.2 ⟨(y, i), List.mem_zipIdx_iff_getElem?.2 hy, rfl⟩
            simp only [Ty.args] at hxs
            have hlen : xs.length = ts.length := by rw [← hxs, List.length_map]
            have hch : ∃ vns vas : Nat → Value, ∀ i y, xs[i]? = some y → V.cell? ⟨g, i * 3 + 1, none⟩ = some (vns i) ∧ V.cell? ⟨g, i * 3 + 2, none⟩ = some (vas i) ∧ TyAt V (vns i) (vas i) y.1 := by
              refine ⟨fun i => (V.cell? ⟨g, i * 3 + 1, none⟩).getD undef, fun i => (V.cell? ⟨g, i * 3 + 2, none⟩).getD undef, fun i y hy => ?_⟩
              obtain ⟨a, b, k1, k2, k3⟩ := hkid i y hy
              simp only at k1 k2 k3
              have e1 : (V.cell? ⟨g, i * 3 + 1, none⟩).getD undef = a := by rw [k1]; rfl
              have e2 : (V.cell? ⟨g, i * 3 + 2, none⟩).getD undef = b := by rw [k2]; rfl
              show _ = some ((V.cell? ⟨g, i * 3 + 1, none⟩).getD undef) ∧ _ = some ((V.cell? ⟨g, i * 3 + 2, none⟩).getD undef) ∧ TyAt V ((V.cell? ⟨g, i * 3 + 1, none⟩).getD undef) ((V.cell? ⟨g, i * 3 + 2, none⟩).getD undef) y.1
              rw [e1, e2]
              exact ⟨k1, k2, k3⟩
            obtain ⟨vns, vas, hv⟩ := hch
            have hxi : ∀ (i : Nat) (y : Ty), ts[i]? = some y → ∃ z : Ty × Value × Value, xs[i]? = some z ∧ z.1 = y := by
              intro i y hy
              rw [← hxs, List.getElem?_map] at hy
              obtain ⟨z, hz, rfl⟩ := Option.map_eq_some_iff.1 hy
              exact ⟨z, hz, rfl⟩
            refine ⟨vns, vas, ⟨_, _, by rw [hlen], Nat.le_refl _, ?_, fun e => by simp at e, .inr ⟨g, 0, rfl, Nat.lt_of_lt_of_le hh.lt hV, fun i y hy => ?_⟩⟩, fun i y hy => ?_⟩
            · omega
            · obtain ⟨z, hz, rfl⟩ := hxi i y hy
              obtain ⟨c0, c1, c2⟩ := kid_cells ht hz
              obtain ⟨k1, k2, -⟩ := hv i z hz
              refine ⟨?_, by rw [Nat.zero_add]; exact k1, by rw [Nat.zero_add]; exact k2⟩
              rw [Nat.zero_add, hc g (i * 3) (.inr (.inr rfl)) ?_, hh.cell, c0]
              intro y hy e
              rcases List.mem_append.1 hy with hy | hy
              · have := hlow _ (hlD y hy)
                omega
              · obtain ⟨j, u, -, rfl⟩ := kid_mem hy
                simp only
                omega
            · obtain ⟨z, hz, rfl⟩ := hxi i y hy
              exact (hv i z hz).2.2
end TyD
end Go.Proofs.YthcdbmbimdkcfaaDoor
