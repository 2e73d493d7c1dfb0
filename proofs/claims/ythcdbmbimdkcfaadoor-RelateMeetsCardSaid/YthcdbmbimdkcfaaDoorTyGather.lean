/- gather: the flat type of just these kinds. -/
import Derived.Test.YthcdbmbimdkcfaaDoorTyClone
import Derived.Test.YthcdbmbimdkcfaaDoorTyKinds
namespace Go.Proofs.YthcdbmbimdkcfaaDoor
open Go.RowKit ObjM
namespace TyD
open LexD (nameB WTab)

theorem infoTy : (Tryd.prog.info? 25).map (fun i => (i.zero, i.size, i.bytes)) = some (some (.agg #[.int .i64 0, .slice none 0 0, .slice none 0 0]), 3, 56) := by kernel_rfl
def leafT (k : Nat) : Ty := .mk (k : Int) [] []
def rowT (ks : List Nat) : List Value := ks.flatMap fun (k : Nat) => [Value.int .i64 (k : Int), .slice none 0 0, .slice none 0 0]
theorem rowT_len (ks : List Nat) : (rowT ks).length = ks.length * 3 := by
  induction ks with
  | nil => rfl
  | cons a r ih => simp [rowT] at ih ⊢; omega
theorem rowT_at : ∀ (l : List Nat) (i : Nat) (e : Nat), l[i]? = some e → (rowT l)[i * 3]? = some (.int .i64 (e : Int)) ∧ (rowT l)[i * 3 + 1]? = some (.slice none 0 0) ∧ (rowT l)[i * 3 + 2]? = some (.slice none 0 0)
  | [], i, e, h => by simp at h
  | a :: r, 0, e, h => by
    simp at h
    subst h
    simp [rowT]
  | a :: r, i + 1, e, h => by
    have ih := rowT_at r i e (by simpa using h)
    have e1 : (i + 1) * 3 = i * 3 + 1 + 1 + 1 := by omega
    rw [e1]
    simp [rowT] at ih ⊢
    exact ih
theorem rowT_snoc (l : List Nat) (e : Nat) : rowT (l ++ [e]) = rowT l ++ [Value.int .i64 (e : Int), .slice none 0 0, .slice none 0 0] := by simp [rowT]
theorem rowT_one (l : List Nat) : ∀ u ∈ rowT l, u.oneCell' = true := by
  intro u hu
  obtain ⟨s, _, hs⟩ := List.mem_flatMap.1 hu
  simp at hs
  rcases hs with rfl | rfl <;> rfl
theorem leaf_at (W : World) (k : Nat) : TyAt W (.slice none 0 0) (.slice none 0 0) (leafT k) := TyAt.of (StrsAt.nil W) (TysAt.nil W)
theorem row_tys {W : World} {B : Nat} {v : Value} {ks : List Nat} (h : W.ownsRow B 25 3 v ks.length (rowT ks)) : TysAt W v (ks.map leafT) := by
  refine ⟨fun _ => .slice none 0 0, fun _ => .slice none 0 0, ?_, fun i t hi => ?_⟩
  · rcases own_shape h with ⟨rfl, hn, hx⟩ | ⟨g, cap, cs, rfl, hBg, hh, hnc, hcm, hcl, htk⟩
    · have : ks = [] := List.length_eq_zero_iff.1 hn
      subst this
      exact ⟨none, 0, rfl, by simp, by simp, fun _ => rfl, .inl rfl⟩
    · refine ⟨_, _, by rw [List.length_map], by rw [List.length_map]; exact hnc, by unfold maxLen at hcm; omega, (fun e => by simp at e), .inr ⟨g, 0, rfl, hh.lt, fun i t hi => ?_⟩⟩
      rw [List.getElem?_map] at hi
      obtain ⟨k, hk, rfl⟩ := Option.map_eq_some_iff.1 hi
      obtain ⟨q0, q1, q2⟩ := rowT_at ks i k hk
      obtain ⟨hj0, hv0⟩ := List.getElem?_eq_some_iff.1 q0
      obtain ⟨hj1, hv1⟩ := List.getElem?_eq_some_iff.1 q1
      obtain ⟨hj2, hv2⟩ := List.getElem?_eq_some_iff.1 q2
      rw [Nat.zero_add]
      exact ⟨by rw [own_cell h _ hj0, hv0]; rfl, by rw [own_cell h _ hj1, hv1], by rw [own_cell h _ hj2, hv2]⟩
  · rw [List.getElem?_map] at hi
    obtain ⟨k, hk, rfl⟩ := Option.map_eq_some_iff.1 hi
    exact leaf_at W k
def sel (p : Nat → Bool) (j : Nat) : List Nat := (List.range j).filter fun k => decide (1 ≤ k) && p k
theorem sel_one (p : Nat → Bool) : sel p 1 = [] := by simp [sel, List.range_succ]
theorem sel_succ (p : Nat → Bool) (j : Nat) (h : 1 ≤ j) : sel p (j + 1) = sel p j ++ (if p j then [j] else []) := by
  unfold sel
  rw [List.range_succ, List.filter_append]
  congr 1
  cases hp : p j <;> simp [hp, h]
theorem sel_len (p : Nat → Bool) (j : Nat) : (sel p j).length ≤ j := by
  have := List.length_filter_le (fun k => decide (1 ≤ k) && p k) (List.range j)
  simpa [sel] using this
def gatherP (p : Nat → Bool) : Ty := match sel p 7 with
  | [] => .mk 0 [] []
  | [k] => leafT k
  | ks => .mk 7 [] (ks.map leafT)
/-- A type in memory that was made: it holds wherever that memory is as it was left. -/
def FreshIs (w : World) (t : Ty) (e : Ending) (w' : World) : Prop := ∃ vn va, e = .returned (.agg #[.int .i64 t.kind, vn, va]) ∧ (∀ W' : World, w'.heap.size ≤ W'.heap.size → (∀ k, w.heap.size ≤ k → k < w'.heap.size → W'.heap[k]? = w'.heap[k]?) → TyAt W' vn va t) ∧ Below w.heap.size w w'
def TypeIs (w : World) (t : Ty) (e : Ending) (w' : World) : Prop := ∃ vn va, e = .returned (.agg #[.int .i64 t.kind, vn, va]) ∧ TyAt w' vn va t ∧ Below w.heap.size w w'
def bitP (x : Int) (k : Nat) : Bool := bits BinOp.and IntKind.i64 x (kindOf (k : Int) : Int) != 0
set_option maxRecDepth 100000 in
set_option maxHeartbeats 8000000 in
theorem gather_any (x : Int) (w : World) (hK : KTab w) : Calls Tryd.prog 64 #[.int .i64 x] w (FreshIs w (gatherP (bitP x))) := by
  obtain ⟨i0, hi, hz0, hz1, hz2⟩ := info_parts infoTy
  have HK := Lib.hid (fun (W : World) (h : Below w.heap.size w W) => hK.below h)
  obtain ⟨p, hp⟩ : ∃ p, bitP x = p := ⟨_, rfl⟩
  have HP : Hid (∀ k : Nat, (bits BinOp.and IntKind.i64 x (kindOf (k : Int) : Int) != 0) = p k) := Lib.hid (fun k => by rw [← hp]; rfl)
  rw [hp]
  clear hp hK
  obtain ⟨t, ht⟩ : ∃ t, gatherP p = t := ⟨_, rfl⟩
  rw [ht]
  have HT := Lib.hid ht
  clear ht
  have HW0 : Hid ((w.alloc (.cells #[.int .i64 0, .slice none 0 0, .slice none 0 0] 25)).ownsRow (w.heap.size + 1) 25 3 (.slice none 0 0) (sel p 1).length (rowT (sel p 1)) ∧ Has (w.alloc (.cells #[.int .i64 0, .slice none 0 0, .slice none 0 0] 25)) w.heap.size 25 [.int .i64 0, .slice none 0 0, .slice none 0 0] ∧ Below w.heap.size w (w.alloc (.cells #[.int .i64 0, .slice none 0 0, .slice none 0 0] 25))) :=
    Lib.hid (by rw [sel_one]; exact ⟨World.ownsRow_nil _ _ _ _, Has.new w 25 _, (Below.refl _ w).alloc (Nat.le_refl _) _⟩)
  go_enter Tryd.func64, Tryd.ntmps64
  go_wp2
  go_loopw [3, 4] (fun l0 i wr => ∃ (j : Nat) (l : Value), l0 = l ∧ i = .int .i64 (j : Int) ∧ 1 ≤ j ∧ j ≤ 7 ∧ Hid (wr.ownsRow (w.heap.size + 1) 25 3 l (sel p j).length (rowT (sel p j)) ∧ Has wr w.heap.size 25 [.int .i64 0, .slice none 0 0, .slice none 0 0] ∧ Below w.heap.size w wr)) (fun _ i _ => 7 - (intOf i).toNat)
  case atStart => exact ⟨1, _, rfl, rfl, by omega, by omega, HW0⟩
  case round =>
    obtain ⟨j, l, hl, rfl, hj1, hj7, HS⟩ := hrel
    obtain ⟨a2, cap2, hsl⟩ : ∃ a2 cap2, l = .slice a2 (sel p j).length cap2 := by
      rcases own_shape HS.out.1 with ⟨h9, h8, _⟩ | ⟨g', cap', cs', h9, _⟩
      · exact ⟨none, 0, by rw [h9, h8]⟩
      · exact ⟨_, _, h9⟩
    subst hsl
    subst hl
    have hob : ∀ g, (Value.slice a2 (sel p j).length cap2).ownBlock = some g → w.heap.size + 1 ≤ g := by
      intro g hg
      rcases own_shape HS.out.1 with ⟨h9, _⟩ | ⟨g', cap', cs', h9, hb9, _⟩
      · rw [h9] at hg
        simp [Value.ownBlock] at hg
      · rw [h9] at hg
        simp [Value.ownBlock] at hg
        omega
    have HOb := Lib.hid hob
    by_cases hlt : j ≤ 6
    · have hi1 : (j : Int) ≤ 6 := by omega
      have hi2 : (j : Int) < 7 := by omega
      have hi0 : (0 : Int) ≤ (j : Int) := by omega
      have hkt := (HK.out _ HS.out.2.2).2 j (by omega)
      have hgl := (HK.out _ HS.out.2.2).1
      have hpj := HP.out j
      generalize ((kindOf (j : Int) : Nat) : Int) = kj at hkt hpj
      obtain ⟨q, hq⟩ : ∃ q, p j = q := ⟨_, rfl⟩
      have HSel : Hid (sel p (j + 1) = sel p j ++ if q then [j] else []) := Lib.hid (by rw [sel_succ p j hj1, hq])
      rw [hq] at hpj
      clear hq hob
      cases q
      · have HS2 : Hid (wr.ownsRow (w.heap.size + 1) 25 3 (.slice a2 (sel p j).length cap2) (sel p (j + 1)).length (rowT (sel p (j + 1))) ∧ Has wr w.heap.size 25 [.int .i64 0, .slice none 0 0, .slice none 0 0] ∧ Below w.heap.size w wr) := Lib.hid (by
          rw [HSel.out]
          simpa using HS.out)
        clear HS HSel
        go_wp2
        go_roundw
        case rel => exact ⟨j + 1, _, rfl, by go_num, by omega, by omega, HS2⟩
        case measure => simp [intOf]; omega
      · have hsl := sel_len p j
        obtain ⟨v2, w2, hrun, ho, hg, -, -⟩ := run_append_own_at (P := Tryd.prog) (w := wr.alloc (.cells #[.int .i64 (j : Int), .slice none 0 0, .slice none 0 0] 25)) (w.heap.size + 1) 23 23 25 i0 (.agg #[.int .i64 0, .slice none 0 0, .slice none 0 0]) 3 56 Tryd.underlying23 hi hz0 hz1 hz2 rfl (by decide) _ _ _ (HS.out.1.alloc _) ⟨wr.heap.size, 0, none⟩ 1 1 [.int .i64 (j : Int), .slice none 0 0, .slice none 0 0] rfl
          (fun k u hk => by rw [addr_at, Nat.zero_add, (Has.new wr 25 [.int .i64 (j : Int), .slice none 0 0, .slice none 0 0]).cell]; exact hk)
          (fun u hu => by simp at hu; rcases hu with rfl | rfl <;> rfl) (by unfold maxLen; omega) (by omega) (by have := HS.out.2.2.size; have := HS.out.2.1.lt; simp; omega)
        have HR := Lib.hid hrun
        have HS2 : Hid (w2.ownsRow (w.heap.size + 1) 25 3 v2 (sel p (j + 1)).length (rowT (sel p (j + 1))) ∧ Has w2 w.heap.size 25 [.int .i64 0, .slice none 0 0, .slice none 0 0] ∧ Below w.heap.size w w2) := Lib.hid (by
          rw [HSel.out]
          refine ⟨by simpa [rowT_snoc] using ho, ?_, ?_⟩
          · refine (HS.out.2.1.keeps (Keeps.alloc [] wr _) (by simp)).keeps (Keeps.grown hg) (fun hm => ?_)
            have := HOb.out _ (Option.mem_toList.1 hm)
            omega
          · refine (HS.out.2.2.alloc HS.out.2.2.size _).trans ((Keeps.grown hg).toBelow w.heap.size (by have := HS.out.2.2.size; simp; omega) (fun x hm => ?_))
            have := HOb.out _ (Option.mem_toList.1 hm)
            omega)
        clear HS HSel hrun ho hg hsl
        go_wp2_with (at_builtin; refine wpList_append_run (by rfl) (.tmp 15) (.tmp 18) 23 rfl _ _ _ _ rfl rfl HR.out ?_)
        go_roundw
        case rel => exact ⟨j + 1, _, rfl, by go_num, by omega, by omega, HS2⟩
        case measure => simp [intOf]; omega
    · obtain rfl : j = 7 := by omega
      clear hob HK HP
      have HG : Hid (t = match sel p 7 with | [] => .mk 0 [] [] | [k] => leafT k | ks => .mk 7 [] (ks.map leafT)) := Lib.hid HT.out.symm
      clear HT
      generalize sel p 7 = ks at HS HG HOb ⊢
      have z0 := HS.out.2.1.cell 0
      have z1 := HS.out.2.1.cell 1
      have z2 := HS.out.2.1.cell 2
      have f0 := HS.out.2.1.frozen 0
      have f1 := HS.out.2.1.frozen 1
      have f2 := HS.out.2.1.frozen 2
      have lz := HS.out.2.1.lt
      simp at z0 z1 z2
      have HEnd : Hid (∀ a b c, (((wr.setCell ⟨w.heap.size, 0, none⟩ a).setCell ⟨w.heap.size, 1, none⟩ b).setCell ⟨w.heap.size, 2, none⟩ c).ownsRow (w.heap.size + 1) 25 3 (.slice a2 ks.length cap2) ks.length (rowT ks) ∧ Below w.heap.size w (((wr.setCell ⟨w.heap.size, 0, none⟩ a).setCell ⟨w.heap.size, 1, none⟩ b).setCell ⟨w.heap.size, 2, none⟩ c)) := Lib.hid (fun a b c => by
        have hn : ∀ g, (Value.slice a2 ks.length cap2).ownBlock = some g → g ∉ [w.heap.size] := fun g hg hm => by
          have := HOb.out g hg
          simp at hm
          omega
        exact ⟨own_keeps (own_keeps (own_keeps HS.out.1 (Keeps.set _ _ _ _) hn) (Keeps.set _ _ _ _) hn) (Keeps.set _ _ _ _) hn, ((HS.out.2.2.setCell (by simp) _).setCell (by simp) _).setCell (by simp) _⟩)
      clear hlt HOb
      rcases ks with _ | ⟨k, _ | ⟨k2, r⟩⟩
      · have HF : Hid (t = .mk 0 [] []) := Lib.hid HG.out
        obtain rfl := HF.out
        clear HG HS
        go_wp2
        exact bodyPost_ret (v := .agg #[.int .i64 0, .slice none 0 0, .slice none 0 0]) (by simp [results, Tryd.results64, go_sem, z0, z1, z2]) rfl ⟨_, _, rfl, fun W' _ _ => TyAt.of (StrsAt.nil _) (TysAt.nil _), (HEnd.out _ _ _).2⟩
      · have HF : Hid (t = leafT k) := Lib.hid HG.out
        obtain rfl := HF.out
        obtain ⟨g, rfl, g0, g1, g2⟩ : ∃ g, a2 = some ⟨g, 0, none⟩ ∧ wr.cell? ⟨g, 0, none⟩ = some (.int .i64 (k : Int)) ∧ wr.cell? ⟨g, 1, none⟩ = some (.slice none 0 0) ∧ wr.cell? ⟨g, 2, none⟩ = some (.slice none 0 0) := by
          rcases own_shape HS.out.1 with ⟨_, h8, _⟩ | ⟨g', cap', cs', h9, _⟩
          · simp at h8
          · injection h9 with h9
            subst h9
            exact ⟨g', rfl, own_cell HS.out.1 0 (by simp [rowT]), own_cell HS.out.1 1 (by simp [rowT]), own_cell HS.out.1 2 (by simp [rowT])⟩
        clear HG HS
        go_wp2
        exact bodyPost_ret (v := .agg #[.int .i64 (k : Int), .slice none 0 0, .slice none 0 0]) (by simp [results, Tryd.results64, go_sem, z0, z1, z2]) rfl ⟨_, _, rfl, fun W' _ _ => leaf_at _ k, (HEnd.out _ _ _).2⟩
      · have HF : Hid (t = .mk 7 [] ((k :: k2 :: r).map leafT)) := Lib.hid HG.out
        obtain rfl := HF.out
        have hn0 : (((k :: k2 :: r).length : Int) == 0) = false := by simp; omega
        have hn1 : (((k :: k2 :: r).length : Int) == 1) = false := by simp; omega
        clear HG HS
        generalize hks : k :: k2 :: r = ks at *
        clear hks
        go_wp2
        exact bodyPost_ret (v := .agg #[.int .i64 7, .slice none 0 0, .slice a2 ks.length cap2]) (by simp [results, Tryd.results64, go_sem, z0, z1, z2]) rfl ⟨_, _, rfl, fun W' _ hag => TyAt.of (StrsAt.nil _) (row_tys (own_agree (HEnd.out _ _ _).1 (fun k hk hl => hag k (by omega) hl))), (HEnd.out _ _ _).2⟩
end TyD
end Go.Proofs.YthcdbmbimdkcfaaDoor
