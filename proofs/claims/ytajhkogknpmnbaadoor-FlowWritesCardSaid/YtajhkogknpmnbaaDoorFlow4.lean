/- Where a word leads: the program's, walked. -/
import Derived.Test.YtajhkogknpmnbaaDoorFlowA
namespace Go.Proofs.YtajhkogknpmnbaaDoor
open Go.RowKit ObjM
namespace FlowD
open InstrM InstrD

theorem decode_w (x : Int) (h0 : 0 ≤ x) (h1 : x ≤ 4294967295) (W : World) (hT : Tabs W) : Calls Tryd.prog 20 #[.int .u32 x] W fun e w' => e = .returned (answer x (rF x) (wOf x (rF x))) ∧ Below W.heap.size W w' := by
  rw [← answer_eq h0 h1]
  exact decode_any x h0 h1 W hT
set_option maxRecDepth 100000 in
set_option maxHeartbeats 16000000 in
theorem next_any (p : PrV) (ws : List Nat) (pos : Int) (w : World) (hw : WordsAt w p ws) (hp : -9223372036854775808 ≤ pos ∧ pos ≤ 9223372036854775807) (hT : Tabs w) : Calls Tryd.prog 12 #[p.agg, .int .i64 pos] w (IntsIs w (nextV ws pos)) := by
  obtain ⟨hx, hb⟩ := pr_box w p
  have HB := Lib.hid hb
  have HX : Hid (∀ W, Below (w.heap.size + 1) (w.alloc (.cells #[.slice p.a0 p.n0 p.c0, .int .i64 p.rg, .slice p.wa p.wn p.wc, .slice p.a3 p.n3 p.c3, .slice p.a4 p.n4 p.c4, .slice p.a5 p.n5 p.c5] 28)) W → (W.cell? ⟨w.heap.size, 0, none⟩ = some (.slice p.a0 p.n0 p.c0) ∧ W.cell? ⟨w.heap.size, 1, none⟩ = some (.int .i64 p.rg) ∧ W.cell? ⟨w.heap.size, 2, none⟩ = some (.slice p.wa p.wn p.wc) ∧ W.cell? ⟨w.heap.size, 3, none⟩ = some (.slice p.a3 p.n3 p.c3) ∧ W.cell? ⟨w.heap.size, 4, none⟩ = some (.slice p.a4 p.n4 p.c4) ∧ W.cell? ⟨w.heap.size, 5, none⟩ = some (.slice p.a5 p.n5 p.c5)) ∧ w.heap.size < W.heap.size ∧ Below w.heap.size w W ∧ w.heap.size + 1 ≤ W.heap.size) := Lib.hid (fun W hW => by
    have g := hx.below hW (by omega)
    exact ⟨⟨g.cell 0, g.cell 1, g.cell 2, g.cell 3, g.cell 4, g.cell 5⟩, g.lt, hb.trans (hW.mono (by omega)), g.lt⟩)
  have HB0 := Lib.hid (Below.refl (w.heap.size + 1) (w.alloc (.cells #[.slice p.a0 p.n0 p.c0, .int .i64 p.rg, .slice p.wa p.wn p.wc, .slice p.a3 p.n3 p.c3, .slice p.a4 p.n4 p.c4, .slice p.a5 p.n5 p.c5] 28)))
  have HL := Lib.hid hw.len
  have HSm := Lib.hid hw.small
  have HAt := Lib.hid (fun i x hi => hw.at_ i x hi)
  have HLi := Lib.hid hw.lim
  have HTb := Lib.hid (hT.below hb)
  have HR : Hid (nextV ws pos = if pos < 0 ∨ (ws.length : Int) ≤ pos then [] else leadV ws.length (opW (ws.getD pos.toNat 0 : Nat)) (dW (ws.getD pos.toNat 0 : Nat)) pos) := Lib.hid rfl
  obtain ⟨R, hR⟩ : ∃ R, nextV ws pos = R := ⟨_, rfl⟩
  rw [hR] at HR ⊢
  obtain ⟨x0, x1, x2, x3, x4, x5⟩ := (HX.out _ HB0.out).1
  have lx := (HX.out _ HB0.out).2.1
  unfold PrV.agg
  clear hx hb hw hR hT
  by_cases h0 : pos < 0
  · have HF : Hid (R = []) := Lib.hid (by rw [HR.out, if_pos (.inl h0)])
    obtain rfl := HF.out
    clear HR
    go_enter Tryd.func12, Tryd.ntmps12
    go_wp2
    go_ret
    exact ⟨_, rfl, World.ownsRow_nil _ _ _ _, HB.out⟩
  by_cases h1 : (p.wn : Int) ≤ pos
  · have HF : Hid (R = []) := Lib.hid (by rw [HR.out, if_pos (.inr (by rw [← HL.out]; exact h1))])
    obtain rfl := HF.out
    clear HR
    go_enter Tryd.func12, Tryd.ntmps12
    go_wp2
    go_ret
    exact ⟨_, rfl, World.ownsRow_nil _ _ _ _, HB.out⟩
  obtain ⟨k, rfl⟩ := Int.eq_ofNat_of_zero_le (show 0 ≤ pos by omega)
  have hk : k < ws.length := by have := HL.out; omega
  have hget := List.getElem?_eq_getElem hk
  obtain ⟨g, o, hwa, hg, hc⟩ := HAt.out k _ hget
  have HD : Hid (R = leadV ws.length (opW (ws[k] : Nat)) (dW (ws[k] : Nat)) (k : Int)) := Lib.hid (by
    rw [HR.out, if_neg (by have := HL.out; omega)]
    simp [List.getD_eq_getElem?_getD, hget])
  have hlim := HLi.out _ (List.getElem_mem hk)
  have HDe := Lib.hid (fun W h => decode_w ((ws[k] : Nat) : Int) (by omega) (by omega) W h)
  obtain ⟨ia, ib, ic, ie, hans, hie⟩ := answer_is ((ws[k] : Nat) : Int)
  rw [hans] at HDe
  have hcw := (HB.out.cell (p := ⟨g, o + k, none⟩) hg).trans hc
  have hkn : (k : Int) < (p.wn : Int) := by omega
  have hkb : (k : Int) ≤ 1000000 := by have := HSm.out; omega
  rw [← HL.out] at HD
  generalize opW ((ws[k] : Nat) : Int) = op at HD HDe hie
  generalize dW ((ws[k] : Nat) : Int) = d at HD HDe
  generalize ws[k] = x at hcw HDe
  rw [hwa] at x0 x1 x2 x3 x4 x5 lx HX HB0 HB hcw HTb
  clear HR HL hget hg hc hlim hans HAt HLi HSm hk
  rw [hwa]
  go_enter Tryd.func12, Tryd.ntmps12
  go_wp2_with fail
  generalize (w.alloc (.cells #[.slice p.a0 p.n0 p.c0, .int .i64 p.rg, .slice (some ⟨g, o, none⟩) p.wn p.wc, .slice p.a3 p.n3 p.c3, .slice p.a4 p.n4 p.c4, .slice p.a5 p.n5 p.c5] 28)) = W1 at x0 x1 x2 x3 x4 x5 lx HX HB0 HB hcw HTb ⊢
  refine (HDe.out _ HTb.out).mono ?_
  rintro e w2 ⟨rfl, hb2⟩
  have HB2 := Lib.hid (HB0.out.trans (hb2.mono (HX.out _ HB0.out).2.2.2))
  have hb3 : Below w2.heap.size w2 (w2.alloc (.cells #[.int .i64 op, .int .i64 ia, .int .i64 ib, .int .i64 ic, .int .i64 d] 39)) := (Below.refl _ w2).alloc (Nat.le_refl _) _
  have HB3 := Lib.hid (HB2.out.trans (hb3.mono (HX.out _ HB2.out).2.2.2))
  have hs3 : (w2.alloc (.cells #[.int .i64 op, .int .i64 ia, .int .i64 ib, .int .i64 ic, .int .i64 d] 39)).heap.size = w2.heap.size + 1 := by simp
  have hw3 : w.heap.size + 1 ≤ (w2.alloc (.cells #[.int .i64 op, .int .i64 ia, .int .i64 ib, .int .i64 ic, .int .i64 d] 39)).heap.size := (HX.out _ HB3.out).2.2.2
  have HA1 := Lib.hid (fun (N : Nat) (x : Int) => atl_one (N := N) HB3.out hw3 x hs3)
  have HA2 := Lib.hid (fun (N : Nat) (x y : Int) => atl_two (N := N) HB3.out hw3 x y hs3)
  have hw1 : IntKind.i64.wrap ((k : Int) + 1) = (k : Int) + 1 := IntWalk.i64_in _ (by omega)
  have hw2 : IntKind.i64.wrap ((k : Int) + 2) = (k : Int) + 2 := IntWalk.i64_in _ (by omega)
  clear hb2 hb3 hs3 hw3 x0 x1 x2 x3 x4 x5 lx hcw HDe HTb HB0 HB2 HB3
-- BEGIN
  rcases hie with rfl | ⟨rfl, rfl⟩
  · by_cases o34 : op = 34
    · subst o34
      have HF : Hid (Lib.compact (sortL ([d].map (plV p.wn))) = R) := Lib.hid (by rw [HD.out, leadV, if_pos rfl]; exact sc_one _)
      have HA := Lib.hid (HA1.out p.wn (d))
      clear HD HA1 HA2
      go_wp2
      go_loopw [65] (fun i wr => ∃ j : Nat, i = .int .i64 (j : Int) ∧ j ≤ 1 ∧ Hid (AtL W1 wr (w.heap.size + 1) (w2.heap.size + 1) 1 p.wn j [d])) (fun i _ => 1 - (intOf i).toNat)
      case atStart => exact ⟨0, rfl, by omega, HA⟩
      case round =>
        obtain ⟨j, rfl, hj, HS⟩ := hrel
        by_cases hlt : j < 1
        · have hi1 : (j : Int) < 1 := by omega
          have hi0 : (0 : Int) ≤ (j : Int) := by omega
          have hjl : j < ([d] : List Int).length := by simp; omega
          have hc := HS.out.cell hjl
          have hgl := HS.out.lt.2
          have hfz := HS.out.1.frozenAt j
          have HSt := Lib.hid (fun hv => HS.out.set hjl hv)
          have HSy := Lib.hid (fun hv => HS.out.stay hjl hv)
          obtain ⟨⟨x0, x1, x2, x3, x4, x5⟩, lx, -⟩ := HX.out _ HS.out.2
          generalize ([d] : List Int)[j] = y at hc HSt HSy
          have HPl : Hid (plV p.wn y = if y < 0 ∨ (p.wn : Int) ≤ y then -1 else y) := Lib.hid rfl
          clear HS hjl HA HF
          by_cases hy0 : y < 0
          · have HS2 := Lib.hid (HSt.out (by rw [HPl.out, if_pos (.inl hy0)]))
            clear HSt HSy HPl
            go_wp2
            go_roundw
            case rel => exact ⟨j + 1, by go_num, by omega, HS2⟩
            case measure => simp [intOf]; omega
          · by_cases hy1 : (p.wn : Int) ≤ y
            · have HS2 := Lib.hid (HSt.out (by rw [HPl.out, if_pos (.inr hy1)]))
              clear HSt HSy HPl
              go_wp2
              go_roundw
              case rel => exact ⟨j + 1, by go_num, by omega, HS2⟩
              case measure => simp [intOf]; omega
            · have HS2 := Lib.hid (HSy.out (by rw [HPl.out, if_neg (by omega)]))
              clear HSt HSy HPl
              go_wp2
              go_roundw
              case rel => exact ⟨j + 1, by go_num, by omega, HS2⟩
              case measure => simp [intOf]; omega
        · have hjn : j = 1 := by omega
          subst hjn
          have HSo := Lib.hid (atl_sort (n := 1) (zs := [d]) rfl (by simp) HB.out HS.out)
          clear HX HS HA
          go_wp2_with fail
          refine HSo.out.mono ?_
          rintro e w5 ⟨rfl, HS5⟩
          have HC := Lib.hid (atl_compact rfl HF.out (by rw [← HF.out]; exact sc_len (by simp)) HS5.out)
          clear HSo HS5
          go_wp2_with fail
          refine HC.out.mono ?_
          rintro e w6 ⟨v, rfl, HE⟩
          clear HC
          go_wp2
          go_ret
          exact HE.out
    have b34 : (op == 34) = false := by simpa using o34
    by_cases ob : op = 35 ∨ op = 36
    · have hbr : (op == 35) = true ∨ ((op == 35) = false ∧ (op == 36) = true) := by
        rcases ob with rfl | rfl
        · exact .inl rfl
        · exact .inr ⟨rfl, rfl⟩
      have HF : Hid (Lib.compact (sortL ([d, (k : Int) + 2].map (plV p.wn))) = R) := Lib.hid (by rw [HD.out, leadV, if_neg o34, if_neg (by omega), if_pos ob]; exact sc_two _ _)
      have HA := Lib.hid (HA2.out p.wn d ((k : Int) + 2))
      clear HD HA1 HA2 o34 ob
      rcases hbr with e35 | ⟨e35, e36⟩
      · go_wp2
        go_loopw [65] (fun i wr => ∃ j : Nat, i = .int .i64 (j : Int) ∧ j ≤ 2 ∧ Hid (AtL W1 wr (w.heap.size + 1) (w2.heap.size + 1) 2 p.wn j [d, (k : Int) + 2])) (fun i _ => 2 - (intOf i).toNat)
        case atStart => exact ⟨0, rfl, by omega, HA⟩
        case round =>
          obtain ⟨j, rfl, hj, HS⟩ := hrel
          by_cases hlt : j < 2
          · have hi1 : (j : Int) < 2 := by omega
            have hi0 : (0 : Int) ≤ (j : Int) := by omega
            have hjl : j < ([d, (k : Int) + 2] : List Int).length := by simp; omega
            have hc := HS.out.cell hjl
            have hgl := HS.out.lt.2
            have hfz := HS.out.1.frozenAt j
            have HSt := Lib.hid (fun hv => HS.out.set hjl hv)
            have HSy := Lib.hid (fun hv => HS.out.stay hjl hv)
            obtain ⟨⟨x0, x1, x2, x3, x4, x5⟩, lx, -⟩ := HX.out _ HS.out.2
            generalize ([d, (k : Int) + 2] : List Int)[j] = y at hc HSt HSy
            have HPl : Hid (plV p.wn y = if y < 0 ∨ (p.wn : Int) ≤ y then -1 else y) := Lib.hid rfl
            clear HS hjl HA HF
            by_cases hy0 : y < 0
            · have HS2 := Lib.hid (HSt.out (by rw [HPl.out, if_pos (.inl hy0)]))
              clear HSt HSy HPl
              go_wp2
              go_roundw
              case rel => exact ⟨j + 1, by go_num, by omega, HS2⟩
              case measure => simp [intOf]; omega
            · by_cases hy1 : (p.wn : Int) ≤ y
              · have HS2 := Lib.hid (HSt.out (by rw [HPl.out, if_pos (.inr hy1)]))
                clear HSt HSy HPl
                go_wp2
                go_roundw
                case rel => exact ⟨j + 1, by go_num, by omega, HS2⟩
                case measure => simp [intOf]; omega
              · have HS2 := Lib.hid (HSy.out (by rw [HPl.out, if_neg (by omega)]))
                clear HSt HSy HPl
                go_wp2
                go_roundw
                case rel => exact ⟨j + 1, by go_num, by omega, HS2⟩
                case measure => simp [intOf]; omega
          · have hjn : j = 2 := by omega
            subst hjn
            have HSo := Lib.hid (atl_sort (n := 2) (zs := [d, (k : Int) + 2]) rfl (by simp) HB.out HS.out)
            clear HX HS HA
            go_wp2_with fail
            refine HSo.out.mono ?_
            rintro e w5 ⟨rfl, HS5⟩
            have HC := Lib.hid (atl_compact rfl HF.out (by rw [← HF.out]; exact sc_len (by simp)) HS5.out)
            clear HSo HS5
            go_wp2_with fail
            refine HC.out.mono ?_
            rintro e w6 ⟨v, rfl, HE⟩
            clear HC
            go_wp2
            go_ret
            exact HE.out
      · go_wp2
        go_loopw [65] (fun i wr => ∃ j : Nat, i = .int .i64 (j : Int) ∧ j ≤ 2 ∧ Hid (AtL W1 wr (w.heap.size + 1) (w2.heap.size + 1) 2 p.wn j [d, (k : Int) + 2])) (fun i _ => 2 - (intOf i).toNat)
        case atStart => exact ⟨0, rfl, by omega, HA⟩
        case round =>
          obtain ⟨j, rfl, hj, HS⟩ := hrel
          by_cases hlt : j < 2
          · have hi1 : (j : Int) < 2 := by omega
            have hi0 : (0 : Int) ≤ (j : Int) := by omega
            have hjl : j < ([d, (k : Int) + 2] : List Int).length := by simp; omega
            have hc := HS.out.cell hjl
            have hgl := HS.out.lt.2
            have hfz := HS.out.1.frozenAt j
            have HSt := Lib.hid (fun hv => HS.out.set hjl hv)
            have HSy := Lib.hid (fun hv => HS.out.stay hjl hv)
            obtain ⟨⟨x0, x1, x2, x3, x4, x5⟩, lx, -⟩ := HX.out _ HS.out.2
            generalize ([d, (k : Int) + 2] : List Int)[j] = y at hc HSt HSy
            have HPl : Hid (plV p.wn y = if y < 0 ∨ (p.wn : Int) ≤ y then -1 else y) := Lib.hid rfl
            clear HS hjl HA HF
            by_cases hy0 : y < 0
            · have HS2 := Lib.hid (HSt.out (by rw [HPl.out, if_pos (.inl hy0)]))
              clear HSt HSy HPl
              go_wp2
              go_roundw
              case rel => exact ⟨j + 1, by go_num, by omega, HS2⟩
              case measure => simp [intOf]; omega
            · by_cases hy1 : (p.wn : Int) ≤ y
              · have HS2 := Lib.hid (HSt.out (by rw [HPl.out, if_pos (.inr hy1)]))
                clear HSt HSy HPl
                go_wp2
                go_roundw
                case rel => exact ⟨j + 1, by go_num, by omega, HS2⟩
                case measure => simp [intOf]; omega
              · have HS2 := Lib.hid (HSy.out (by rw [HPl.out, if_neg (by omega)]))
                clear HSt HSy HPl
                go_wp2
                go_roundw
                case rel => exact ⟨j + 1, by go_num, by omega, HS2⟩
                case measure => simp [intOf]; omega
          · have hjn : j = 2 := by omega
            subst hjn
            have HSo := Lib.hid (atl_sort (n := 2) (zs := [d, (k : Int) + 2]) rfl (by simp) HB.out HS.out)
            clear HX HS HA
            go_wp2_with fail
            refine HSo.out.mono ?_
            rintro e w5 ⟨rfl, HS5⟩
            have HC := Lib.hid (atl_compact rfl HF.out (by rw [← HF.out]; exact sc_len (by simp)) HS5.out)
            clear HSo HS5
            go_wp2_with fail
            refine HC.out.mono ?_
            rintro e w6 ⟨v, rfl, HE⟩
            clear HC
            go_wp2
            go_ret
            exact HE.out
    have b35 : (op == 35) = false := by simp; omega
    have b36 : (op == 36) = false := by simp; omega
    by_cases o42 : op = 42
    · subst o42
      have HF : Hid (Lib.compact (sortL ([(-1 : Int)].map (plV p.wn))) = R) := Lib.hid (by rw [HD.out]; exact sc_one _)
      have HA := Lib.hid (HA1.out p.wn (-1))
      clear HD HA1 HA2 o34 ob b34 b35 b36
      go_wp2
      go_loopw [65] (fun i wr => ∃ j : Nat, i = .int .i64 (j : Int) ∧ j ≤ 1 ∧ Hid (AtL W1 wr (w.heap.size + 1) (w2.heap.size + 1) 1 p.wn j [(-1 : Int)])) (fun i _ => 1 - (intOf i).toNat)
      case atStart => exact ⟨0, rfl, by omega, HA⟩
      case round =>
        obtain ⟨j, rfl, hj, HS⟩ := hrel
        by_cases hlt : j < 1
        · have hi1 : (j : Int) < 1 := by omega
          have hi0 : (0 : Int) ≤ (j : Int) := by omega
          have hjl : j < ([(-1 : Int)] : List Int).length := by simp; omega
          have hc := HS.out.cell hjl
          have hgl := HS.out.lt.2
          have hfz := HS.out.1.frozenAt j
          have HSt := Lib.hid (fun hv => HS.out.set hjl hv)
          have HSy := Lib.hid (fun hv => HS.out.stay hjl hv)
          obtain ⟨⟨x0, x1, x2, x3, x4, x5⟩, lx, -⟩ := HX.out _ HS.out.2
          generalize ([(-1 : Int)] : List Int)[j] = y at hc HSt HSy
          have HPl : Hid (plV p.wn y = if y < 0 ∨ (p.wn : Int) ≤ y then -1 else y) := Lib.hid rfl
          clear HS hjl HA HF
          by_cases hy0 : y < 0
          · have HS2 := Lib.hid (HSt.out (by rw [HPl.out, if_pos (.inl hy0)]))
            clear HSt HSy HPl
            go_wp2
            go_roundw
            case rel => exact ⟨j + 1, by go_num, by omega, HS2⟩
            case measure => simp [intOf]; omega
          · by_cases hy1 : (p.wn : Int) ≤ y
            · have HS2 := Lib.hid (HSt.out (by rw [HPl.out, if_pos (.inr hy1)]))
              clear HSt HSy HPl
              go_wp2
              go_roundw
              case rel => exact ⟨j + 1, by go_num, by omega, HS2⟩
              case measure => simp [intOf]; omega
            · have HS2 := Lib.hid (HSy.out (by rw [HPl.out, if_neg (by omega)]))
              clear HSt HSy HPl
              go_wp2
              go_roundw
              case rel => exact ⟨j + 1, by go_num, by omega, HS2⟩
              case measure => simp [intOf]; omega
        · have hjn : j = 1 := by omega
          subst hjn
          have HSo := Lib.hid (atl_sort (n := 1) (zs := [(-1 : Int)]) rfl (by simp) HB.out HS.out)
          clear HX HS HA
          go_wp2_with fail
          refine HSo.out.mono ?_
          rintro e w5 ⟨rfl, HS5⟩
          have HC := Lib.hid (atl_compact rfl HF.out (by rw [← HF.out]; exact sc_len (by simp)) HS5.out)
          clear HSo HS5
          go_wp2_with fail
          refine HC.out.mono ?_
          rintro e w6 ⟨v, rfl, HE⟩
          clear HC
          go_wp2
          go_ret
          exact HE.out
    have b42 : (op == 42) = false := by simpa using o42
    have HF : Hid (Lib.compact (sortL ([(k : Int) + 1].map (plV p.wn))) = R) := Lib.hid (by rw [HD.out, leadV, if_neg o34, if_neg o42, if_neg ob]; exact sc_one _)
    have HA := Lib.hid (HA1.out p.wn ((k : Int) + 1))
    clear HD HA1 HA2 o34 ob o42
    go_wp2
    go_loopw [65] (fun i wr => ∃ j : Nat, i = .int .i64 (j : Int) ∧ j ≤ 1 ∧ Hid (AtL W1 wr (w.heap.size + 1) (w2.heap.size + 1) 1 p.wn j [(k : Int) + 1])) (fun i _ => 1 - (intOf i).toNat)
    case atStart => exact ⟨0, rfl, by omega, HA⟩
    case round =>
      obtain ⟨j, rfl, hj, HS⟩ := hrel
      by_cases hlt : j < 1
      · have hi1 : (j : Int) < 1 := by omega
        have hi0 : (0 : Int) ≤ (j : Int) := by omega
        have hjl : j < ([(k : Int) + 1] : List Int).length := by simp; omega
        have hc := HS.out.cell hjl
        have hgl := HS.out.lt.2
        have hfz := HS.out.1.frozenAt j
        have HSt := Lib.hid (fun hv => HS.out.set hjl hv)
        have HSy := Lib.hid (fun hv => HS.out.stay hjl hv)
        obtain ⟨⟨x0, x1, x2, x3, x4, x5⟩, lx, -⟩ := HX.out _ HS.out.2
        generalize ([(k : Int) + 1] : List Int)[j] = y at hc HSt HSy
        have HPl : Hid (plV p.wn y = if y < 0 ∨ (p.wn : Int) ≤ y then -1 else y) := Lib.hid rfl
        clear HS hjl HA HF
        by_cases hy0 : y < 0
        · have HS2 := Lib.hid (HSt.out (by rw [HPl.out, if_pos (.inl hy0)]))
          clear HSt HSy HPl
          go_wp2
          go_roundw
          case rel => exact ⟨j + 1, by go_num, by omega, HS2⟩
          case measure => simp [intOf]; omega
        · by_cases hy1 : (p.wn : Int) ≤ y
          · have HS2 := Lib.hid (HSt.out (by rw [HPl.out, if_pos (.inr hy1)]))
            clear HSt HSy HPl
            go_wp2
            go_roundw
            case rel => exact ⟨j + 1, by go_num, by omega, HS2⟩
            case measure => simp [intOf]; omega
          · have HS2 := Lib.hid (HSy.out (by rw [HPl.out, if_neg (by omega)]))
            clear HSt HSy HPl
            go_wp2
            go_roundw
            case rel => exact ⟨j + 1, by go_num, by omega, HS2⟩
            case measure => simp [intOf]; omega
      · have hjn : j = 1 := by omega
        subst hjn
        have HSo := Lib.hid (atl_sort (n := 1) (zs := [(k : Int) + 1]) rfl (by simp) HB.out HS.out)
        clear HX HS HA
        go_wp2_with fail
        refine HSo.out.mono ?_
        rintro e w5 ⟨rfl, HS5⟩
        have HC := Lib.hid (atl_compact rfl HF.out (by rw [← HF.out]; exact sc_len (by simp)) HS5.out)
        clear HSo HS5
        go_wp2_with fail
        refine HC.out.mono ?_
        rintro e w6 ⟨v, rfl, HE⟩
        clear HC
        go_wp2
        go_ret
        exact HE.out
  · have HF : Hid (Lib.compact (sortL ([(k : Int) + 1].map (plV p.wn))) = R) := Lib.hid (by rw [HD.out]; exact sc_one _)
    have HA := Lib.hid (HA1.out p.wn ((k : Int) + 1))
    clear HD HA1 HA2
    go_wp2
    go_loopw [65] (fun i wr => ∃ j : Nat, i = .int .i64 (j : Int) ∧ j ≤ 1 ∧ Hid (AtL W1 wr (w.heap.size + 1) (w2.heap.size + 1) 1 p.wn j [(k : Int) + 1])) (fun i _ => 1 - (intOf i).toNat)
    case atStart => exact ⟨0, rfl, by omega, HA⟩
    case round =>
      obtain ⟨j, rfl, hj, HS⟩ := hrel
      by_cases hlt : j < 1
      · have hi1 : (j : Int) < 1 := by omega
        have hi0 : (0 : Int) ≤ (j : Int) := by omega
        have hjl : j < ([(k : Int) + 1] : List Int).length := by simp; omega
        have hc := HS.out.cell hjl
        have hgl := HS.out.lt.2
        have hfz := HS.out.1.frozenAt j
        have HSt := Lib.hid (fun hv => HS.out.set hjl hv)
        have HSy := Lib.hid (fun hv => HS.out.stay hjl hv)
        obtain ⟨⟨x0, x1, x2, x3, x4, x5⟩, lx, -⟩ := HX.out _ HS.out.2
        generalize ([(k : Int) + 1] : List Int)[j] = y at hc HSt HSy
        have HPl : Hid (plV p.wn y = if y < 0 ∨ (p.wn : Int) ≤ y then -1 else y) := Lib.hid rfl
        clear HS hjl HA HF
        by_cases hy0 : y < 0
        · have HS2 := Lib.hid (HSt.out (by rw [HPl.out, if_pos (.inl hy0)]))
          clear HSt HSy HPl
          go_wp2
          go_roundw
          case rel => exact ⟨j + 1, by go_num, by omega, HS2⟩
          case measure => simp [intOf]; omega
        · by_cases hy1 : (p.wn : Int) ≤ y
          · have HS2 := Lib.hid (HSt.out (by rw [HPl.out, if_pos (.inr hy1)]))
            clear HSt HSy HPl
            go_wp2
            go_roundw
            case rel => exact ⟨j + 1, by go_num, by omega, HS2⟩
            case measure => simp [intOf]; omega
          · have HS2 := Lib.hid (HSy.out (by rw [HPl.out, if_neg (by omega)]))
            clear HSt HSy HPl
            go_wp2
            go_roundw
            case rel => exact ⟨j + 1, by go_num, by omega, HS2⟩
            case measure => simp [intOf]; omega
      · have hjn : j = 1 := by omega
        subst hjn
        have HSo := Lib.hid (atl_sort (n := 1) (zs := [(k : Int) + 1]) rfl (by simp) HB.out HS.out)
        clear HX HS HA
        go_wp2_with fail
        refine HSo.out.mono ?_
        rintro e w5 ⟨rfl, HS5⟩
        have HC := Lib.hid (atl_compact rfl HF.out (by rw [← HF.out]; exact sc_len (by simp)) HS5.out)
        clear HSo HS5
        go_wp2_with fail
        refine HC.out.mono ?_
        rintro e w6 ⟨v, rfl, HE⟩
        clear HC
        go_wp2
        go_ret
        exact HE.out
-- END
end FlowD
end Go.Proofs.YtajhkogknpmnbaaDoor
