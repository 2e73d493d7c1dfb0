/- dup.Type: a copy of a type that may be. -/
import Derived.Test.YthcdbmbimdkcfaaDoorTySnug
import Derived.Test.YthcdbmbimdkcfaaDoorTyCheck
import Derived.Test.YthcdbmbimdkcfaaDoorTySame
import Derived.Test.YthcdbmbimdkcfaaDoorTyCp4
import Derived.Deep.RegionHeld3
import Derived.Deep.DeepCutAuto
namespace Go.Proofs.YthcdbmbimdkcfaaDoor
open Go.RowKit ObjM
namespace TyD
open LexD (WTab)

theorem has3 {w : World} {G : Nat} {t : TypeId} {a b c a' b' c' : Value} (h : Has w G t [a, b, c]) : Has (((w.setCell ⟨G, 0, none⟩ a').setCell ⟨G, 1, none⟩ b').setCell ⟨G, 2, none⟩ c') G t [a', b', c'] := ((h.set 0 a').set 1 b').set 2 c'
theorem keep3 (w : World) (G : Nat) (a b c : Value) : Keeps [G] w (((w.setCell ⟨G, 0, none⟩ a).setCell ⟨G, 1, none⟩ b).setCell ⟨G, 2, none⟩ c) :=
  ((Keeps.set w G 0 a).trans (Keeps.set _ G 1 b) fun _ hx => .inl hx).trans (Keeps.set _ G 2 c) fun _ hx => .inl hx
theorem below_on {W0 W w : World} (h : Below W0.heap.size W0 W) (k : Below W.heap.size W w) : Below W0.heap.size W0 w := h.trans (k.mono h.size)
theorem sumF_nil (r : Nat) : sumF r [] = 0 := rfl
theorem sumF_drop {r : Nat} {l : List Ty} {k : Nat} (hk : k < l.length) : sumF r (l.drop k) = sizeF r l[k] + sumF r (l.drop (k + 1)) := by
  rw [List.drop_eq_getElem_cons hk, sumF_cons]
theorem sumF_len (r : Nat) : ∀ l : List Ty, l.length ≤ sumF r l
  | [] => by simp [sumF]
  | a :: l => by
    have := sumF_len r l
    have := sizeF_pos r a
    rw [sumF_cons, List.length_cons]
    omega
/-- What stands behind the first statement: the copy's own variable, and its names. -/
structure NewVar (W wx : World) (G : Nat) (kd : Int) (vn' : Value) (ns : List ByteArray) : Prop where
  far : W.heap.size ≤ G
  has : Has wx G 25 [.int .i64 kd, vn', .slice none 0 0]
  names : ∃ lo hi, W.heap.size ≤ lo ∧ hi ≤ wx.heap.size ∧ ¬ (lo ≤ G ∧ G < hi) ∧ ∀ W' : World, hi ≤ W'.heap.size → (∀ k, lo ≤ k → k < hi → W'.heap[k]? = wx.heap[k]?) → StrsAt W' vn' ns
  below : Below W.heap.size W wx
theorem newA {W0 w5 : World} {z : List Value} {kd : Int} {vn' : Value} {ns : List ByteArray} (hz : ∃ a b c, z = [a, b, c])
    (hfr : ∀ W' : World, w5.heap.size ≤ W'.heap.size → (∀ k, (W0.alloc (.cells z.toArray 25)).drew.heap.size ≤ k → k < w5.heap.size → W'.heap[k]? = w5.heap[k]?) → StrsAt W' vn' ns)
    (hb : Below (W0.alloc (.cells z.toArray 25)).drew.heap.size (W0.alloc (.cells z.toArray 25)).drew w5) :
    NewVar W0 (((w5.setCell ⟨W0.heap.size, 0, none⟩ (.int .i64 kd)).setCell ⟨W0.heap.size, 1, none⟩ vn').setCell ⟨W0.heap.size, 2, none⟩ (.slice none 0 0)) W0.heap.size kd vn' ns := by
  obtain ⟨a, b, c, rfl⟩ := hz
  have hn := Has.new W0 25 [a, b, c]
  have h5 := hn.drew.below hb hn.lt
  have K := keep3 w5 W0.heap.size (.int .i64 kd) vn' (.slice none 0 0)
  refine ⟨Nat.le_refl _, has3 h5, ⟨W0.heap.size + 1, w5.heap.size, by omega, K.size, by omega, fun W' hs hag => hfr W' hs fun k hk hl => ?_⟩, ?_⟩
  · simp at hk
    rw [hag k (by omega) hl]
    exact K.block k hl (by simp; omega)
  · have hb0 : Below W0.heap.size W0 w5 := below_on ((Below.refl _ W0).alloc (Nat.le_refl _) _).drew hb
    exact ((hb0.setCell (by simp) _).setCell (by simp) _).setCell (by simp) _
theorem newB {W0 w5 : World} {kd : Int} {vn' : Value} {ns : List ByteArray}
    (hfr : ∀ W' : World, w5.heap.size ≤ W'.heap.size → (∀ k, W0.drew.heap.size ≤ k → k < w5.heap.size → W'.heap[k]? = w5.heap[k]?) → StrsAt W' vn' ns)
    (hb : Below W0.drew.heap.size W0.drew w5) :
    NewVar W0 (w5.alloc (.cells #[.int .i64 kd, vn', .slice none 0 0] 25)) w5.heap.size kd vn' ns := by
  have hb1 : Below W0.heap.size W0 w5 := below_on (Below.refl _ W0).drew hb
  refine ⟨hb1.size, Has.new w5 25 [.int .i64 kd, vn', .slice none 0 0], ⟨W0.heap.size, w5.heap.size, by omega, by simp, by omega, fun W' hs hag => hfr W' hs fun k hk hl => ?_⟩, hb1.alloc hb1.size _⟩
  rw [hag k hk hl]
  exact Below.heap_alloc _ _ _ hl
set_option maxRecDepth 100000 in
set_option maxHeartbeats 8000000 in
theorem dup_any (t : Ty) (vn va : Value) (w : World) (h : TyAt w vn va t) (_ : TyOk t) (hv : checkV t = true) :
    Calls Tryd.prog 42 #[.agg #[.int .i64 t.kind, vn, va]] w (FreshIs w t) := by
  obtain ⟨an, cn, aa, ca, rfl, rfl⟩ := h.shape
  obtain ⟨hvb, hvs⟩ := (check_iff t).1 hv
  obtain ⟨W0, hW0⟩ : ∃ W0, W0 = ((w.alloc (.cells #[.int .i64 t.kind, .slice an t.names.length cn, .slice aa t.args.length ca] 25)).alloc (.cells #[.int .i64 0, .slice none 0 0, .slice none 0 0] 25)).alloc (.cells #[.int .i64 1048576, .bool false, .map none, .map none] 47) := ⟨_, rfl⟩
  have hsz : W0.heap.size = w.heap.size + 1 + 1 + 1 := by rw [hW0]; simp
  have hBW : Below w.heap.size w W0 := by
    rw [hW0]
    repeat (first | exact Below.refl _ _ | refine Below.alloc ?_ (by simp; try omega) _)
  have hC : Has W0 (w.heap.size + 1 + 1) 47 [.int .i64 ((1048576 : Nat) : Int), .bool false, .map none, .map none] := by
    have h := Has.new ((w.alloc (.cells #[.int .i64 t.kind, .slice an t.names.length cn, .slice aa t.args.length ca] 25)).alloc (.cells #[.int .i64 0, .slice none 0 0, .slice none 0 0] 25)) 47 [.int .i64 1048576, .bool false, .map none, .map none]
    rw [hW0]
    simp only [World.size_alloc] at h
    exact h
  have hb1 : Has W0 (w.heap.size + 1) 25 [.int .i64 0, .slice none 0 0, .slice none 0 0] := by
    have h := (Has.new (w.alloc (.cells #[.int .i64 t.kind, .slice an t.names.length cn, .slice aa t.args.length ca] 25)) 25 [.int .i64 0, .slice none 0 0, .slice none 0 0]).keeps (Keeps.alloc [] _ (.cells #[.int .i64 1048576, .bool false, .map none, .map none] 47)) (by simp)
    rw [hW0]
    simpa only [World.size_alloc] using h
  have HC := Lib.hid (copy_any t _ _ (w.heap.size + 1 + 1) 1048576 w W0 hBW (by omega) h hvb (by omega) rfl hC)
  have HBW := Lib.hid hBW
  have HSz := Lib.hid hsz
  have HB1 := Lib.hid hb1
  have HW0 := Lib.hid hW0
  clear hBW hsz h hv hvb hvs hC hb1 hW0
  go_enter Tryd.func42, Tryd.ntmps42
  go_wp2_with fail
  rw [← HW0.out]
  refine (HC.out).mono ?_
  rintro e w1 ⟨vn, va, lf, rfl, hs, hk, hc⟩
  obtain ⟨an', cn', aa', ca', rfl, rfl⟩ := hs.now.shape
  have hq := HB1.out.keeps hk (by simp)
  have z0 := hq.cell 0
  have z1 := hq.cell 1
  have z2 := hq.cell 2
  have f0 := hq.frozen 0
  have f1 := hq.frozen 1
  have f2 := hq.frozen 2
  have lq := hq.lt
  have c1 := hc.cell 1
  have lc := hc.lt
  have HFin : Hid (∀ o a b c, FreshIs w t (.returned (.agg #[.int .i64 t.kind, .slice an' t.names.length cn', .slice aa' t.args.length ca'])) ((((w1.setCell ⟨w.heap.size + 1, 0, none⟩ a).setCell ⟨w.heap.size + 1, 1, none⟩ b).setCell ⟨w.heap.size + 1, 2, none⟩ c).alloc o)) := Lib.hid (fun o a b c => by
    have K : Keeps [w.heap.size + 1] w1 _ := (keep3 w1 (w.heap.size + 1) a b c).trans (Keeps.alloc [] _ o) (by simp)
    have hs0 := HSz.out
    refine fresh_iff.2 ⟨_, _, rfl, (hs.keeps K (by intro x hx; simp at hx; omega)).sub (fun k hk => by have := K.size; omega) (fun k hk => hk.2), ?_⟩
    exact (HBW.out.trans (hk.toBelow w.heap.size HBW.out.size (by intro x hx; simp at hx; omega))).trans (K.toBelow w.heap.size (Nat.le_trans HBW.out.size hk.size) (by intro x hx; simp at hx; omega)))
  have HY := Lib.hid ((has3 (a' := .int .i64 t.kind) (b' := .slice an' t.names.length cn') (c' := .slice aa' t.args.length ca') hq).keeps (Keeps.alloc [] _ (.cells #[.int .i64 t.kind, .slice an' t.names.length cn', .slice aa' t.args.length ca'] 25)) (by simp))
  simp only [List.getElem?_cons_zero, List.getElem?_cons_succ] at z0 z1 z2 c1
  clear hq hs hk hc HC HW0
  go_wp2
  have y0 := HY.out.cell 0
  have y1 := HY.out.cell 1
  have y2 := HY.out.cell 2
  simp only [List.getElem?_cons_zero, List.getElem?_cons_succ] at y0 y1 y2
  exact bodyPost_ret (v := .agg #[.int .i64 t.kind, .slice an' t.names.length cn', .slice aa' t.args.length ca']) (by simp [results, Tryd.results42, go_sem, y0, y1, y2]) rfl (HFin.out _ _ _ _)
end TyD
end Go.Proofs.YthcdbmbimdkcfaaDoor
