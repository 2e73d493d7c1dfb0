/- Union: the program's. -/
import Derived.Test.YthcdbmbimdkcfaaDoorTyGather
namespace Go.Proofs.YthcdbmbimdkcfaaDoor
open Go.RowKit ObjM
namespace TyD
open LexD (nameB WTab)

def unionG (p : Nat → Bool) : Ty := if (gatherP p).args.length = 6 then .mk 0 [] [] else gatherP p
set_option maxRecDepth 100000 in
set_option maxHeartbeats 8000000 in
theorem union_any (x : Int) (w : World) (hK : KTab w) : Calls Tryd.prog 44 #[.int .i64 x] w (FreshIs w (unionG (bitP x))) := by
  have HG := Lib.hid (fun (W : World) (h : Below w.heap.size w W) => gather_any x W (hK.below h))
  obtain ⟨u, hu⟩ : ∃ u, unionG (bitP x) = u := ⟨_, rfl⟩
  rw [hu]
  have HU : Hid (u = if (gatherP (bitP x)).args.length = 6 then .mk 0 [] [] else gatherP (bitP x)) := Lib.hid hu.symm
  clear hu hK
  generalize gatherP (bitP x) = t at HG HU
  have HB1 : Hid (Below w.heap.size w (w.alloc (.cells #[.int .i64 0, .slice none 0 0, .slice none 0 0] 25)) ∧ Has (w.alloc (.cells #[.int .i64 0, .slice none 0 0, .slice none 0 0] 25)) w.heap.size 25 [.int .i64 0, .slice none 0 0, .slice none 0 0]) := Lib.hid ⟨(Below.refl _ w).alloc (Nat.le_refl _) _, Has.new w 25 _⟩
  go_enter Tryd.func44, Tryd.ntmps44
  go_wp2_with fail
  refine (HG.out _ HB1.out.1).mono ?_
  rintro e w2 ⟨vn, va, rfl, hfr, hb2⟩
  have ht := hfr w2 (Nat.le_refl _) (fun _ _ _ => rfl)
  obtain ⟨an, cn, aa, ca, rfl, rfl⟩ := ht.shape
  have HH2 := Lib.hid (HB1.out.2.below hb2 HB1.out.2.lt)
  have HB2 := Lib.hid (HB1.out.1.trans (hb2.mono HB1.out.1.size))
  have hb3 : Below w2.heap.size w2 (w2.alloc (.cells #[.int .i64 t.kind, .slice an t.names.length cn, .slice aa t.args.length ca] 25)) := (Below.refl _ w2).alloc (Nat.le_refl _) _
  have HH3 := Lib.hid (HH2.out.below hb3 HH2.out.lt)
  have HQ3 := Lib.hid (Has.new w2 25 [.int .i64 t.kind, .slice an t.names.length cn, .slice aa t.args.length ca])
  have HB3 := Lib.hid (HB2.out.trans (hb3.mono HB2.out.size))
  have HT3 := Lib.hid (ht.frame (Nat.le_refl _) hb3)
  have HEn : Hid (∀ a b c (W' : World), ((World.setCell (World.setCell (World.setCell (w2.alloc (.cells #[.int .i64 t.kind, .slice an t.names.length cn, .slice aa t.args.length ca] 25)) ⟨w.heap.size, 0, none⟩ a) ⟨w.heap.size, 1, none⟩ b) ⟨w.heap.size, 2, none⟩ c)).heap.size ≤ W'.heap.size → (∀ k, w.heap.size ≤ k → k < ((World.setCell (World.setCell (World.setCell (w2.alloc (.cells #[.int .i64 t.kind, .slice an t.names.length cn, .slice aa t.args.length ca] 25)) ⟨w.heap.size, 0, none⟩ a) ⟨w.heap.size, 1, none⟩ b) ⟨w.heap.size, 2, none⟩ c)).heap.size → W'.heap[k]? = ((World.setCell (World.setCell (World.setCell (w2.alloc (.cells #[.int .i64 t.kind, .slice an t.names.length cn, .slice aa t.args.length ca] 25)) ⟨w.heap.size, 0, none⟩ a) ⟨w.heap.size, 1, none⟩ b) ⟨w.heap.size, 2, none⟩ c)).heap[k]?) → TyAt W' (.slice an t.names.length cn) (.slice aa t.args.length ca) t) := Lib.hid (fun a b c W' hs hag => by
    have K : Keeps [w.heap.size] w2 (World.setCell (World.setCell (World.setCell (w2.alloc (.cells #[.int .i64 t.kind, .slice an t.names.length cn, .slice aa t.args.length ca] 25)) ⟨w.heap.size, 0, none⟩ a) ⟨w.heap.size, 1, none⟩ b) ⟨w.heap.size, 2, none⟩ c) := (((Keeps.alloc [w.heap.size] w2 _).trans (Keeps.set _ w.heap.size 0 a) (fun x hx => .inl hx)).trans (Keeps.set _ w.heap.size 1 b) (fun x hx => .inl hx)).trans (Keeps.set _ w.heap.size 2 c) (fun x hx => .inl hx)
    refine hfr W' (Nat.le_trans K.size hs) (fun k hk hl => ?_)
    simp at hk
    exact (hag k (by omega) (Nat.lt_of_lt_of_le hl K.size)).trans (K.block k hl (by simp; omega)))
  have HEb : Hid (∀ a b c, Below w.heap.size w (World.setCell (World.setCell (World.setCell (w2.alloc (.cells #[.int .i64 t.kind, .slice an t.names.length cn, .slice aa t.args.length ca] 25)) ⟨w.heap.size, 0, none⟩ a) ⟨w.heap.size, 1, none⟩ b) ⟨w.heap.size, 2, none⟩ c)) := Lib.hid (fun a b c => ((HB3.out.setCell (by simp) _).setCell (by simp) _).setCell (by simp) _)
  have z0 := HH3.out.cell 0
  have z1 := HH3.out.cell 1
  have z2 := HH3.out.cell 2
  have f0 := HH3.out.frozen 0
  have f1 := HH3.out.frozen 1
  have f2 := HH3.out.frozen 2
  have lz := HH3.out.lt
  have q0 := HQ3.out.cell 0
  have q1 := HQ3.out.cell 1
  have q2 := HQ3.out.cell 2
  have lq := HQ3.out.lt
  simp only [List.getElem?_cons_zero, List.getElem?_cons_succ] at z0 z1 z2 q0 q1 q2
  clear ht hb2 hb3 hfr
  by_cases h6 : t.args.length = 6
  · have h6b : ((t.args.length : Int) == 6) = true := by simp [h6]
    have HF : Hid (u = .mk 0 [] []) := Lib.hid (by rw [HU.out, if_pos h6])
    obtain rfl := HF.out
    clear HU h6
    go_wp2
    exact bodyPost_ret (v := .agg #[.int .i64 0, .slice none 0 0, .slice none 0 0]) (by simp [results, Tryd.results44, go_sem, z0, z1, z2]) rfl ⟨_, _, rfl, fun W' _ _ => TyAt.of (StrsAt.nil _) (TysAt.nil _), HEb.out _ _ _⟩
  · have h6b : ((t.args.length : Int) == 6) = false := by simp; omega
    have HF : Hid (u = t) := Lib.hid (by rw [HU.out, if_neg h6])
    obtain rfl := HF.out
    clear HU h6
    go_wp2
    exact bodyPost_ret (v := .agg #[.int .i64 u.kind, .slice an u.names.length cn, .slice aa u.args.length ca]) (by simp [results, Tryd.results44, go_sem, z0, z1, z2]) rfl ⟨_, _, rfl, HEn.out _ _ _, HEb.out _ _ _⟩
end TyD
end Go.Proofs.YthcdbmbimdkcfaaDoor

namespace Go.Proofs.YthcdbmbimdkcfaaDoor
open Go.RowKit ObjM
namespace TyD

theorem sel_seven (p : Nat → Bool) : sel p 7 = [1, 2, 3, 4, 5, 6].filter p := by
  show ([0, 1, 2, 3, 4, 5, 6].filter fun k => decide (1 ≤ k) && p k) = _
  rw [List.filter_cons_of_neg (by simp)]
  exact List.filter_congr fun k hk => by
    have : 1 ≤ k := by simp at hk; omega
    simp [this]
theorem unionG_eq (p : Nat → Bool) : unionG p = unionP p := by
  unfold unionG gatherP unionP
  rw [sel_seven]
  generalize [1, 2, 3, 4, 5, 6].filter p = l
  rcases l with _ | ⟨k, _ | ⟨k2, r⟩⟩
  · rfl
  · rfl
  · simp only [List.map_cons, Ty.args]
    rfl
theorem bitP_fin : ∀ y : Fin 128, ∀ k : Fin 7, (bits BinOp.and IntKind.i64 (y.val : Int) (kindOf (k.val : Int) : Int) != 0) = bitsOf y.val k.val := by decide +kernel
theorem unionG_bits {n : Nat} (h : n < 128) : unionG (bitP (n : Int)) = unionP (bitsOf n) := by
  rw [unionG_eq]
  have e : [1, 2, 3, 4, 5, 6].filter (bitP (n : Int)) = [1, 2, 3, 4, 5, 6].filter (bitsOf n) := List.filter_congr fun k hk => by
    have : k < 7 := by simp at hk; omega
    exact bitP_fin ⟨n, h⟩ ⟨k, this⟩
  unfold unionP
  rw [e]
end TyD
end Go.Proofs.YthcdbmbimdkcfaaDoor
