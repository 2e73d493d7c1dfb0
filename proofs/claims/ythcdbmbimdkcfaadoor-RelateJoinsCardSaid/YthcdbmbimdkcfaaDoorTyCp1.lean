/- dup's helpers: a list's copy. -/
import Derived.Test.YthcdbmbimdkcfaaDoorTySnug
import Derived.Test.YthcdbmbimdkcfaaDoorTyClone
import Derived.Maps.AppendAt
import Derived.Lib.SliceRun
namespace Go.Proofs.YthcdbmbimdkcfaaDoor
open Go.RowKit ObjM
namespace TyD
open LexD (WTab)

/-- A row of types as cells. -/
theorem tys_rows {W : World} {av : Option Addr} {n c : Nat} {ls : List Ty} (h : TysAt W (.slice av n c) ls) (h0 : ls ≠ []) :
    ∃ b o xs, av = some ⟨b, o, none⟩ ∧ b < W.heap.size ∧ xs.map (·.1) = ls ∧ (∀ j u, (rowX xs)[j]? = some u → W.cell? ⟨b, o + j, none⟩ = some u) ∧ ∀ x ∈ xs, TyAt W x.2.1 x.2.2 x.1 := by
  obtain ⟨vns, vas, ⟨av2, cap2, e, -, -, -, h1⟩, h2⟩ := h
  injection e with e1 e2 e3
  subst e1
  rcases h1 with h1 | ⟨b, o, h1, h3, h4⟩
  · exact absurd h1 h0
  · refine ⟨b, o, (List.range ls.length).pmap (fun i hi => (ls[i], vns i, vas i)) (fun i hi => List.mem_range.1 hi), h1, h3, ?_, ?_, ?_⟩
    · refine List.ext_getElem (by simp) fun i h5 h6 => ?_
      simp
    · intro j u hj
      have hlen : ((List.range ls.length).pmap (fun i (hi : i < ls.length) => (ls[i], vns i, vas i)) (fun i hi => List.mem_range.1 hi)).length = ls.length := by simp
      have hjl := (List.getElem?_eq_some_iff.1 hj).1
      rw [rowX_len, hlen] at hjl
      have hil : j / 3 < ls.length := by omega
      have hget : ((List.range ls.length).pmap (fun i (hi : i < ls.length) => (ls[i], vns i, vas i)) (fun i hi => List.mem_range.1 hi))[j / 3]? = some (ls[j / 3], vns (j / 3), vas (j / 3)) := by
        rw [List.getElem?_eq_getElem (by simpa using hil)]
        simp
      obtain ⟨q0, q1, q2⟩ := rowX_at _ _ _ hget
      obtain ⟨c0, c1, c2⟩ := h4 (j / 3) _ (List.getElem?_eq_getElem hil)
      have hm : j % 3 = 0 ∨ j % 3 = 1 ∨ j % 3 = 2 := by omega
      rcases hm with hm | hm | hm
      · have e : j = j / 3 * 3 := by omega
        rw [e] at hj ⊢
        rw [q0] at hj
        injection hj with hj
        rw [← hj, c0]
      · have e : j = j / 3 * 3 + 1 := by omega
        rw [e] at hj ⊢
        rw [q1] at hj
        injection hj with hj
        rw [← hj, ← Nat.add_assoc, c1]
      · have e : j = j / 3 * 3 + 2 := by omega
        rw [e] at hj ⊢
        rw [q2] at hj
        injection hj with hj
        rw [← hj, ← Nat.add_assoc, c2]
    · intro x hx
      obtain ⟨i, hi, rfl⟩ := List.mem_pmap.1 hx
      exact h2 i _ (List.getElem?_eq_getElem (List.mem_range.1 hi))
theorem rowX_one {W : World} {xs : List (Ty × Value × Value)} (h : ∀ x ∈ xs, TyAt W x.2.1 x.2.2 x.1) : ∀ u ∈ rowX xs, u.oneCell' = true := by
  intro u hu
  unfold rowX at hu
  obtain ⟨x, hx, hux⟩ := List.mem_flatMap.1 hu
  exact one_of (h x hx) u hux
/-- A copy of cells: a block of one's own. -/
def CopyOf (w : World) (t : TypeId) (n : Nat) (cs : List Value) (e : Ending) (w' : World) : Prop :=
  ∃ g c, e = .returned (.slice (some ⟨g, 0, none⟩) n c) ∧ n ≤ c ∧ w.heap.size ≤ g ∧ (∃ ds, Has w' g t ds ∧ ds.take cs.length = cs ∧ cs.length ≤ ds.length) ∧ Below w.heap.size w w'
theorem copy_own {w w' : World} {t : TypeId} {size n : Nat} {v : Value} {cs : List Value} (h : w'.ownsRow w.heap.size t size v n cs) (h0 : 0 < n) (hb : Below w.heap.size w w') (hl : cs.length = n * size) : CopyOf w t n cs (.returned v) w' := by
  rcases own_shape h with ⟨-, h2, -⟩ | ⟨g, cap, ds, rfl, h2, h3, h4, h5, h6, h7⟩
  · omega
  · refine ⟨g, cap, rfl, h4, h2, ⟨ds, h3, by rw [hl]; exact h7, ?_⟩, hb⟩
    rw [h6, hl]
    exact Nat.mul_le_mul_right _ h4
set_option maxRecDepth 100000 in
set_option maxHeartbeats 4000000 in
theorem cloneS_any (l : List ByteArray) (av : Option Addr) (c : Nat) (w : World) (h : StrsAt w (.slice av l.length c) l) (h0 : l ≠ []) (hn : l.length ≤ 1000000) : Calls Tryd.prog 61 #[.slice av l.length c] w (CopyOf w 9 l.length (l.map Value.string)) := by
  obtain ⟨i0, hi, hz0, hz1, hz2⟩ := info_parts infoString
  have qT : ∀ (w : World) (a : Option Addr) (n c n' c' : Nat), (binOp .eql 22 (.slice a n c) (.slice none n' c')).run Tryd.prog w = .ok (.bool a.isNone) w := fun w a n c n' c' => Lib.run_eql_slice_nil w _ _ a n c n' c' Tryd.underlying22
  obtain ⟨av2, cap, e, hc, hc2, hc3, h1⟩ := h
  injection e with e1 e2 e3
  subst e1 e3
  rcases h1 with h1 | ⟨g, o, rfl, hg, hcell⟩
  · exact absurd h1 h0
  have hown0 : (w.alloc (.cells #[] 9)).ownsRow w.heap.size 9 1 (.slice (some ⟨w.heap.size, 0, none⟩) 0 0) 0 [] := own_of (cs := []) (Nat.le_refl _) (Has.new w 9 []) (Nat.le_refl _) (by unfold maxLen; omega) rfl rfl
  have hb0 : Below w.heap.size w (w.alloc (.cells #[] 9)) := (Below.refl _ w).alloc (Nat.le_refl _) _
  obtain ⟨v2, w2, hrun, ho, hgr, -, -⟩ := run_append_own_at (P := Tryd.prog) (w := w.alloc (.cells #[] 9)) w.heap.size 22 22 9 i0 (.string ⟨#[]⟩) 1 16 Tryd.underlying22 hi hz0 hz1 hz2 rfl (by decide) _ 0 [] hown0 ⟨g, o, none⟩ l.length c (l.map Value.string) (by simp)
    (fun j u hj => by
      rw [List.getElem?_map] at hj
      obtain ⟨x, hx, rfl⟩ := Option.map_eq_some_iff.1 hj
      rw [addr_at]
      exact (hb0.cell (p := ⟨g, o + j, none⟩) hg).trans (hcell j x hx))
    (fun u hu => by obtain ⟨x, _, rfl⟩ := List.mem_map.1 hu; rfl) (by unfold maxLen; omega) (by omega) (by simp)
  have HR := Lib.hid hrun
  have HS : Hid (CopyOf w 9 l.length (l.map Value.string) (.returned v2) w2) := Lib.hid (copy_own (size := 1) (by simpa using ho) (List.length_pos_iff.2 h0) (hb0.trans ((Keeps.grown hgr).toBelow w.heap.size (by simp) (by simp [Value.ownBlock]))) (by simp))
  clear hc3 hrun ho hgr hown0 hb0 hcell h0
  go_enter Tryd.func61, Tryd.ntmps61
  go_wp2_with (at_builtin; refine wpList_append_run (by rfl) (.tmp 5) (.tmp 6) 22 rfl _ _ _ _ rfl rfl HR.out ?_)
  go_ret
  exact HS.out
set_option maxRecDepth 100000 in
set_option maxHeartbeats 4000000 in
theorem cloneT_any (xs : List (Ty × Value × Value)) (b o n c : Nat) (w : World) (hxn : xs.length = n) (h0 : 0 < n) (hn : n ≤ 1000000) (hb : b < w.heap.size) (hcell : ∀ j u, (rowX xs)[j]? = some u → w.cell? ⟨b, o + j, none⟩ = some u) (hty : ∀ x ∈ xs, TyAt w x.2.1 x.2.2 x.1) :
    Calls Tryd.prog 95 #[.slice (some ⟨b, o, none⟩) n c] w (CopyOf w 25 n (rowX xs)) := by
  obtain ⟨i0, hi, hz0, hz1, hz2⟩ := info_parts infoTy
  have qT : ∀ (w : World) (a : Option Addr) (n c n' c' : Nat), (binOp .eql 23 (.slice a n c) (.slice none n' c')).run Tryd.prog w = .ok (.bool a.isNone) w := fun w a n c n' c' => Lib.run_eql_slice_nil w _ _ a n c n' c' Tryd.underlying23
  have hown0 : (w.alloc (.cells #[] 25)).ownsRow w.heap.size 25 3 (.slice (some ⟨w.heap.size, 0, none⟩) 0 0) 0 [] := own_of (cs := []) (Nat.le_refl _) (Has.new w 25 []) (Nat.le_refl _) (by unfold maxLen; omega) rfl rfl
  have hb0 : Below w.heap.size w (w.alloc (.cells #[] 25)) := (Below.refl _ w).alloc (Nat.le_refl _) _
  have hlen := rowX_len xs
  rw [hxn] at hlen
  obtain ⟨v2, w2, hrun, ho, hgr, -, -⟩ := run_append_own_at (P := Tryd.prog) (w := w.alloc (.cells #[] 25)) w.heap.size 23 23 25 i0 (.agg #[.int .i64 0, .slice none 0 0, .slice none 0 0]) 3 56 Tryd.underlying23 hi hz0 hz1 hz2 rfl (by decide) _ 0 [] hown0 ⟨b, o, none⟩ n c (rowX xs) hlen
    (fun j u hj => by
      rw [addr_at]
      exact (hb0.cell (p := ⟨b, o + j, none⟩) hb).trans (hcell j u hj))
    (rowX_one hty) (by unfold maxLen; omega) (by omega) (by simp)
  have HR := Lib.hid hrun
  have HS : Hid (CopyOf w 25 n (rowX xs) (.returned v2) w2) := Lib.hid (copy_own (size := 3) (by simpa using ho) h0 (hb0.trans ((Keeps.grown hgr).toBelow w.heap.size (by simp) (by simp [Value.ownBlock]))) hlen)
  clear hrun ho hgr hown0 hb0 hcell h0 hty hxn hlen
  go_enter Tryd.func95, Tryd.ntmps95
  go_wp2_with (at_builtin; refine wpList_append_run (by rfl) (.tmp 5) (.tmp 6) 23 rfl _ _ _ _ rfl rfl HR.out ?_)
  go_ret
  exact HS.out
theorem clipS_any (g n c : Nat) (w : World) (hn : n ≤ c) : Calls Tryd.prog 92 #[.slice (some ⟨g, 0, none⟩) n c] w fun e w' => e = .returned (.slice (some ⟨g, 0, none⟩) n n) ∧ w = w' := by
  have h1 : (n : Int) ≤ (c : Int) := by omega
  have h0 : (0 : Int) ≤ (n : Int) := by omega
  go_enter Tryd.func92, Tryd.ntmps92
  go_wp2
  go_ret
  exact ⟨rfl, rfl⟩
theorem clipT_any (g n c : Nat) (w : World) (hn : n ≤ c) : Calls Tryd.prog 94 #[.slice (some ⟨g, 0, none⟩) n c] w fun e w' => e = .returned (.slice (some ⟨g, 0, none⟩) n n) ∧ w = w' := by
  have h1 : (n : Int) ≤ (c : Int) := by omega
  have h0 : (0 : Int) ≤ (n : Int) := by omega
  go_enter Tryd.func94, Tryd.ntmps94
  go_wp2
  go_ret
  exact ⟨rfl, rfl⟩
theorem whichS_any (b o n c : Nat) (w : World) (h0 : 0 < n) : Calls Tryd.prog 91 #[.slice (some ⟨b, o, none⟩) n c] w fun e w' => e = .returned (.agg #[.pointer (some ⟨b, o, none⟩), .int .i64 (n : Int)]) ∧ Below w.heap.size w w' := by
  have h1 : (0 : Int) < (n : Int) := by omega
  go_enter Tryd.func91, Tryd.ntmps91
  go_wp2
  refine bodyPost_ret (v := .agg #[.pointer (some ⟨b, o, none⟩), .int .i64 (n : Int)]) (by simp [results, Tryd.results91, go_sem]) rfl ⟨rfl, ?_⟩
  repeat (first | exact Below.refl _ _ | refine Below.setCell ?_ (by simp) _ | refine Below.alloc ?_ (by simp) _)
theorem whichT_any (b o n c : Nat) (w : World) (h0 : 0 < n) : Calls Tryd.prog 93 #[.slice (some ⟨b, o, none⟩) n c] w fun e w' => e = .returned (.agg #[.pointer (some ⟨b, o, none⟩), .int .i64 (n : Int)]) ∧ Below w.heap.size w w' := by
  have h1 : (0 : Int) < (n : Int) := by omega
  go_enter Tryd.func93, Tryd.ntmps93
  go_wp2
  refine bodyPost_ret (v := .agg #[.pointer (some ⟨b, o, none⟩), .int .i64 (n : Int)]) (by simp [results, Tryd.results93, go_sem]) rfl ⟨rfl, ?_⟩
  repeat (first | exact Below.refl _ _ | refine Below.setCell ?_ (by simp) _ | refine Below.alloc ?_ (by simp) _)
end TyD
end Go.Proofs.YthcdbmbimdkcfaaDoor
