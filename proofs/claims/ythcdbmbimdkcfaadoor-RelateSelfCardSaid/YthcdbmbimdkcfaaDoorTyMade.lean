/- made: the document's flat type of kinds. -/
import Derived.Test.YthcdbmbimdkcfaaDoorTyUnion
namespace Go.Proofs.YthcdbmbimdkcfaaDoor
open Go.RowKit ObjM
namespace TyD
open LexD (nameB WTab)

def madeP (p : Nat → Bool) : Ty := match sel p 7 with
  | [k] => leafT k
  | ks => .mk 7 [] (ks.map leafT)
theorem leaf_kinds : ∀ j : Fin 7, 1 ≤ j.val → kindsC (leafT j.val) = kindOf (j.val : Int) := by decide +kernel
theorem leaf_ok {j : Nat} (h : j < 7) : TyOk (leafT j) := .mk _ _ _ (by omega) (by simp) (by simp) (by simp) (by simp)
set_option maxRecDepth 100000 in
set_option maxHeartbeats 8000000 in
theorem made_any (x : Int) (w : World) : Calls Tryd.prog 66 #[.int .i64 x] w (FreshIs w (madeP (bitP x))) := by
  obtain ⟨i0, hi, hz0, hz1, hz2⟩ := info_parts infoTy
  obtain ⟨p, hp⟩ : ∃ p, bitP x = p := ⟨_, rfl⟩
  have HP : Hid (∀ k : Nat, (bits BinOp.and IntKind.i64 x (kindOf (k : Int) : Int) != 0) = p k) := Lib.hid (fun k => by rw [← hp]; rfl)
  rw [hp]
  clear hp
  obtain ⟨t, ht⟩ : ∃ t, madeP p = t := ⟨_, rfl⟩
  rw [ht]
  have HT := Lib.hid ht
  clear ht
  obtain ⟨hh0, hh1, hbw, hsz⟩ := box2 w [.int .i64 0, .slice none 0 0, .slice none 0 0] [.int .i64 7, .slice none 0 0, .slice none 0 0] 25 _ rfl
  have HW0 : Hid (∃ l : Value, ((w.alloc (.cells #[.int .i64 0, .slice none 0 0, .slice none 0 0] 25)).alloc (.cells #[.int .i64 7, .slice none 0 0, .slice none 0 0] 25)).ownsRow (w.heap.size + 1 + 1) 25 3 l (sel p 1).length (rowT (sel p 1)) ∧ Has ((w.alloc (.cells #[.int .i64 0, .slice none 0 0, .slice none 0 0] 25)).alloc (.cells #[.int .i64 7, .slice none 0 0, .slice none 0 0] 25)) (w.heap.size + 1) 25 [.int .i64 7, .slice none 0 0, l] ∧ Has ((w.alloc (.cells #[.int .i64 0, .slice none 0 0, .slice none 0 0] 25)).alloc (.cells #[.int .i64 7, .slice none 0 0, .slice none 0 0] 25)) w.heap.size 25 [.int .i64 0, .slice none 0 0, .slice none 0 0] ∧ Below w.heap.size w ((w.alloc (.cells #[.int .i64 0, .slice none 0 0, .slice none 0 0] 25)).alloc (.cells #[.int .i64 7, .slice none 0 0, .slice none 0 0] 25))) := Lib.hid ⟨.slice none 0 0, by rw [sel_one]; exact World.ownsRow_nil _ _ _ _, hh1, hh0, hbw⟩
  clear hh0 hh1 hbw hsz
  go_enter Tryd.func66, Tryd.ntmps66
  go_wp2
  change Code.wp _ _ _ _ (World.alloc (World.alloc w _) _)
  generalize World.alloc (World.alloc w (.cells #[.int .i64 0, .slice none 0 0, .slice none 0 0] 25)) (.cells #[.int .i64 7, .slice none 0 0, .slice none 0 0] 25) = w1 at HW0 ⊢
  go_loopw [4] (fun i wr => ∃ j : Nat, i = .int .i64 (j : Int) ∧ 1 ≤ j ∧ j ≤ 7 ∧ Hid (∃ l : Value, wr.ownsRow (w.heap.size + 1 + 1) 25 3 l (sel p j).length (rowT (sel p j)) ∧ Has wr (w.heap.size + 1) 25 [.int .i64 7, .slice none 0 0, l] ∧ Has wr w.heap.size 25 [.int .i64 0, .slice none 0 0, .slice none 0 0] ∧ Below w.heap.size w wr)) (fun i _ => 7 - (intOf i).toNat)
  case atStart => exact ⟨1, rfl, by omega, by omega, HW0⟩
  case round =>
    obtain ⟨j, rfl, hj1, hj7, HX⟩ := hrel
    obtain ⟨l, hX⟩ := HX.out
    have HS := Lib.hid hX
    clear HX hX
    obtain ⟨a2, cap2, hsl⟩ : ∃ a2 cap2, l = .slice a2 (sel p j).length cap2 := by
      rcases own_shape HS.out.1 with ⟨h9, h8, _⟩ | ⟨g', cap', cs', h9, _⟩
      · exact ⟨none, 0, by rw [h9, h8]⟩
      · exact ⟨_, _, h9⟩
    subst hsl
    have hob : ∀ g, (Value.slice a2 (sel p j).length cap2).ownBlock = some g → w.heap.size + 1 + 1 ≤ g := by
      intro g hg
      rcases own_shape HS.out.1 with ⟨h9, _⟩ | ⟨g', cap', cs', h9, hb9, _⟩
      · rw [h9] at hg
        simp [Value.ownBlock] at hg
      · rw [h9] at hg
        simp [Value.ownBlock] at hg
        omega
    have HOb := Lib.hid hob
    clear hob
    by_cases hlt : j ≤ 6
    · have hi1 : (j : Int) ≤ 6 := by omega
      have HC := Lib.hid (refKinds_any (leafT j) (.slice none 0 0) (.slice none 0 0) wr (leaf_ok (by omega)) (leaf_at wr j))
      rw [leaf_kinds ⟨j, by omega⟩ hj1] at HC
      change Hid (Calls _ _ #[.agg #[.int .i64 (j : Int), .slice none 0 0, .slice none 0 0]] wr _) at HC
      have hpj := HP.out j
      change Hid (Calls _ _ _ wr (IntB wr ((kindOf (j : Int) : Nat) : Int))) at HC
      generalize ((kindOf (j : Int) : Nat) : Int) = kj at HC hpj
      obtain ⟨q, hq⟩ : ∃ q, p j = q := ⟨_, rfl⟩
      have HSel : Hid (sel p (j + 1) = sel p j ++ if q then [j] else []) := Lib.hid (by rw [sel_succ p j hj1, hq])
      rw [hq] at hpj
      clear hq
      have hsl := sel_len p j
      have HSl := Lib.hid hsl
      clear hsl
      go_wp2_with fail
      refine (HC.out).mono ?_
      rintro e w2 ⟨rfl, hb2⟩
      have HS2 : Hid (w2.ownsRow (w.heap.size + 1 + 1) 25 3 (.slice a2 (sel p j).length cap2) (sel p j).length (rowT (sel p j)) ∧ Has w2 (w.heap.size + 1) 25 [.int .i64 7, .slice none 0 0, .slice a2 (sel p j).length cap2] ∧ Has w2 w.heap.size 25 [.int .i64 0, .slice none 0 0, .slice none 0 0] ∧ Below w.heap.size w w2) := Lib.hid
        ⟨own_keeps HS.out.1 (Keeps.below' hb2 []) (fun _ _ h => by simp at h), HS.out.2.1.below hb2 HS.out.2.1.lt, HS.out.2.2.1.below hb2 HS.out.2.2.1.lt, HS.out.2.2.2.trans (hb2.mono HS.out.2.2.2.size)⟩
      clear HS HC hb2
      have x2 := HS2.out.2.1.cell 2
      have fx2 := HS2.out.2.1.frozen 2
      have lx := HS2.out.2.1.lt
      simp only [List.getElem?_cons_zero, List.getElem?_cons_succ] at x2
      cases q
      · have HS3 : Hid (∃ l : Value, w2.ownsRow (w.heap.size + 1 + 1) 25 3 l (sel p (j + 1)).length (rowT (sel p (j + 1))) ∧ Has w2 (w.heap.size + 1) 25 [.int .i64 7, .slice none 0 0, l] ∧ Has w2 w.heap.size 25 [.int .i64 0, .slice none 0 0, .slice none 0 0] ∧ Below w.heap.size w w2) := Lib.hid ⟨_, by rw [HSel.out]; simpa using HS2.out⟩
        clear HS2 HSel x2 fx2 lx
        go_wp2
        go_roundw
        case rel => exact ⟨j + 1, by go_num, by omega, by omega, HS3⟩
        case measure => simp [intOf]; omega
      · obtain ⟨v2, w3, hrun, ho, hg, -, -⟩ := run_append_own_at (P := Tryd.prog) (w := w2.alloc (.cells #[.int .i64 (j : Int), .slice none 0 0, .slice none 0 0] 25)) (w.heap.size + 1 + 1) 23 23 25 i0 (.agg #[.int .i64 0, .slice none 0 0, .slice none 0 0]) 3 56 Tryd.underlying23 hi hz0 hz1 hz2 rfl (by decide) _ _ _ (HS2.out.1.alloc _) ⟨w2.heap.size, 0, none⟩ 1 1 [.int .i64 (j : Int), .slice none 0 0, .slice none 0 0] rfl
          (fun k u hk => by rw [addr_at, Nat.zero_add, (Has.new w2 25 [.int .i64 (j : Int), .slice none 0 0, .slice none 0 0]).cell]; exact hk)
          (fun u hu => by simp at hu; rcases hu with rfl | rfl <;> rfl) (by have := HSl.out; unfold maxLen; omega) (by have := HSl.out; omega) (by have := HS2.out.2.1.lt; simp; omega)
        have HR := Lib.hid hrun
        have hnb : ∀ g, g < w.heap.size + 1 + 1 → g ∉ (Value.slice a2 (sel p j).length cap2).ownBlock.toList := fun g hg hm => by
          have := HOb.out _ (Option.mem_toList.1 hm)
          omega
        have h1 := (HS2.out.2.1.keeps (Keeps.alloc [] w2 (.cells #[.int .i64 (j : Int), .slice none 0 0, .slice none 0 0] 25)) (by simp)).keeps (Keeps.grown hg) (hnb _ (by omega))
        have h0 := (HS2.out.2.2.1.keeps (Keeps.alloc [] w2 (.cells #[.int .i64 (j : Int), .slice none 0 0, .slice none 0 0] 25)) (by simp)).keeps (Keeps.grown hg) (hnb _ (by omega))
        have hbb : Below w.heap.size w w3 := (HS2.out.2.2.2.alloc HS2.out.2.2.2.size _).trans ((Keeps.grown hg).toBelow w.heap.size (by have := HS2.out.2.2.2.size; simp; omega) (fun x hm => by
          have := HOb.out _ (Option.mem_toList.1 hm)
          omega))
        have hl1 : (sel p j).length + 1 = (sel p (j + 1)).length := by rw [HSel.out]; simp
        have hr1 : rowT (sel p j) ++ [.int .i64 (j : Int), .slice none 0 0, .slice none 0 0] = rowT (sel p (j + 1)) := by rw [HSel.out]; simp [rowT_snoc]
        rw [hl1, hr1] at ho
        obtain ⟨a3, cap3, hs3⟩ : ∃ a3 cap3, v2 = .slice a3 (sel p (j + 1)).length cap3 := by
          rcases own_shape ho with ⟨_, h8, _⟩ | ⟨g', cap', cs', h9, _⟩
          · omega
          · exact ⟨_, _, h9⟩
        subst hs3
        clear hl1 hr1
        have HS3 : Hid (∃ l : Value, (w3.setCell ⟨w.heap.size + 1, 2, none⟩ (.slice a3 (sel p (j + 1)).length cap3)).ownsRow (w.heap.size + 1 + 1) 25 3 l (sel p (j + 1)).length (rowT (sel p (j + 1))) ∧ Has (w3.setCell ⟨w.heap.size + 1, 2, none⟩ (.slice a3 (sel p (j + 1)).length cap3)) (w.heap.size + 1) 25 [.int .i64 7, .slice none 0 0, l] ∧ Has (w3.setCell ⟨w.heap.size + 1, 2, none⟩ (.slice a3 (sel p (j + 1)).length cap3)) w.heap.size 25 [.int .i64 0, .slice none 0 0, .slice none 0 0] ∧ Below w.heap.size w (w3.setCell ⟨w.heap.size + 1, 2, none⟩ (.slice a3 (sel p (j + 1)).length cap3))) := Lib.hid ⟨(.slice a3 (sel p (j + 1)).length cap3), by
          refine own_keeps ho (Keeps.set _ _ _ _) (fun g hg hm => ?_)
          simp at hm
          rcases own_shape ho with ⟨h9, _⟩ | ⟨g', cap', cs', h9, hb9, _⟩
          · rw [h9] at hg
            simp [Value.ownBlock] at hg
          · rw [h9] at hg
            simp [Value.ownBlock] at hg
            omega, h1.set 2 (.slice a3 (sel p (j + 1)).length cap3), h0.keeps (Keeps.set _ _ _ _) (by simp), hbb.setCell (by simp) _⟩
        have x3 := h1.cell 2
        have fx3 := h1.frozen 2
        have lx3 := h1.lt
        simp only [List.getElem?_cons_zero, List.getElem?_cons_succ] at x3
        clear HS2 HSel hrun ho hg h1 h0 hbb hnb HOb
        go_wp2_with (at_builtin; refine wpList_append_run (by rfl) (.tmp 17) (.tmp 20) 23 rfl _ _ _ _ rfl rfl HR.out ?_)
        go_roundw
        case rel => exact ⟨j + 1, by go_num, by omega, by omega, HS3⟩
        case measure => simp [intOf]; omega
    · obtain rfl : j = 7 := by omega
      clear HP
      have HG : Hid (t = match sel p 7 with | [k] => leafT k | ks => .mk 7 [] (ks.map leafT)) := Lib.hid HT.out.symm
      clear HT
      generalize sel p 7 = ks at HS HG HOb ⊢
      have z0 := HS.out.2.2.1.cell 0
      have z1 := HS.out.2.2.1.cell 1
      have z2 := HS.out.2.2.1.cell 2
      have f0 := HS.out.2.2.1.frozen 0
      have f1 := HS.out.2.2.1.frozen 1
      have f2 := HS.out.2.2.1.frozen 2
      have lz := HS.out.2.2.1.lt
      have y0 := HS.out.2.1.cell 0
      have y1 := HS.out.2.1.cell 1
      have y2 := HS.out.2.1.cell 2
      have ly := HS.out.2.1.lt
      simp only [List.getElem?_cons_zero, List.getElem?_cons_succ] at z0 z1 z2 y0 y1 y2
      have HEnd : Hid (∀ a b c, (((wr.setCell ⟨w.heap.size, 0, none⟩ a).setCell ⟨w.heap.size, 1, none⟩ b).setCell ⟨w.heap.size, 2, none⟩ c).ownsRow (w.heap.size + 1 + 1) 25 3 (.slice a2 ks.length cap2) ks.length (rowT ks) ∧ Below w.heap.size w (((wr.setCell ⟨w.heap.size, 0, none⟩ a).setCell ⟨w.heap.size, 1, none⟩ b).setCell ⟨w.heap.size, 2, none⟩ c)) := Lib.hid (fun a b c => by
        have hn : ∀ g, (Value.slice a2 ks.length cap2).ownBlock = some g → g ∉ [w.heap.size] := fun g hg hm => by
          have := HOb.out g hg
          simp at hm
          omega
        exact ⟨own_keeps (own_keeps (own_keeps HS.out.1 (Keeps.set _ _ _ _) hn) (Keeps.set _ _ _ _) hn) (Keeps.set _ _ _ _) hn, ((HS.out.2.2.2.setCell (by simp) _).setCell (by simp) _).setCell (by simp) _⟩)
      clear hlt HOb
      by_cases hone : ∃ k, ks = [k]
      · obtain ⟨k, rfl⟩ := hone
        have HF : Hid (t = leafT k) := Lib.hid HG.out
        obtain rfl := HF.out
        obtain ⟨g, rfl, g0, g1, g2⟩ : ∃ g, a2 = some ⟨g, 0, none⟩ ∧ wr.cell? ⟨g, 0, none⟩ = some (.int .i64 (k : Int)) ∧ wr.cell? ⟨g, 1, none⟩ = some (.slice none 0 0) ∧ wr.cell? ⟨g, 2, none⟩ = some (.slice none 0 0) := by
          rcases own_shape HS.out.1 with ⟨_, h8, _⟩ | ⟨g', cap', cs', h9, _⟩
          · simp at h8
          · injection h9 with h9
            subst h9
            exact ⟨g', rfl, own_cell HS.out.1 0 (by simp [rowT]), own_cell HS.out.1 1 (by simp [rowT]), own_cell HS.out.1 2 (by simp [rowT])⟩
        clear HG HS
        go_wp2
        exact bodyPost_ret (v := .agg #[.int .i64 (k : Int), .slice none 0 0, .slice none 0 0]) (by simp [results, Tryd.results66, go_sem, z0, z1, z2]) rfl ⟨_, _, rfl, fun W' _ _ => leaf_at _ k, (HEnd.out _ _ _).2⟩
      · have hn1 : ((ks.length : Int) == 1) = false := by
          simp only [beq_eq_false_iff_ne, ne_eq]
          intro h
          exact hone (List.length_eq_one_iff.1 (by omega))
        have HF : Hid (t = .mk 7 [] (ks.map leafT)) := Lib.hid (by
          rw [HG.out]
          rcases ks with _ | ⟨k, _ | ⟨k2, r⟩⟩
          · rfl
          · exact absurd ⟨k, rfl⟩ hone
          · rfl)
        obtain rfl := HF.out
        clear HG HS hone
        go_wp2
        exact bodyPost_ret (v := .agg #[.int .i64 7, .slice none 0 0, .slice a2 ks.length cap2]) (by simp [results, Tryd.results66, go_sem, z0, z1, z2]) rfl ⟨_, _, rfl, fun W' _ hag => TyAt.of (StrsAt.nil _) (row_tys (own_agree (HEnd.out _ _ _).1 (fun k hk hl => hag k (by omega) hl))), (HEnd.out _ _ _).2⟩
end TyD
end Go.Proofs.YthcdbmbimdkcfaaDoor
