/- The registers that are written: the document's. (Written by mk_refwrites.py.) -/
import Derived.Test.YtajhkogknpmnbaaDoorFlowZ6
import Derived.Deep.RegionWith
namespace Go.Proofs.YtajhkogknpmnbaaDoor
open Go.RowKit ObjM
namespace FlowDz
open FlowD FlowM LabelM LabelD InstrM InstrD

def WrD (ws : List Nat) (n : Nat) (f : Nat → Bool) : Prop := ∃ z, PostSpec (nextW ws) ws.length n z ∧ RegS ws (fun x => ComeS (nextW ws n) (nextW ws) (shO z) x) f
theorem wr_same {ws : List Nat} {n : Nat} {f g : Nat → Bool} (h : WrP ws n f) (k : WrD ws n g) (hop : opW (ws.getD n 0 : Nat) = 35 ∨ opW (ws.getD n 0 : Nat) = 36) : regsL f = regsL g := by
  obtain ⟨z, h1, h2⟩ := h
  obtain ⟨y, k1, k2⟩ := k
  obtain rfl := post_unique h1 k1
  exact regs_both h2 k2 (branch_not hop) (fun x _ => Iff.rfl)
theorem shO_ne (z : Int) : shO z ≠ -1 ∨ z < -1 := by
  unfold shO
  split <;> omega
def hasC (f : Nat → Bool) : List Value := (List.range 256).map fun r => Value.bool (f r)
theorem hasC_get {f : Nat → Bool} {r : Nat} (h : r < 256) : (hasC f)[r]? = some (.bool (f r)) := by
  unfold hasC
  rw [List.getElem?_map, List.getElem?_range h]
  rfl
theorem hasC_set {f g : Nat → Bool} {a : Nat} (ha : a < 256) (h : ∀ r, r < 256 → g r = (f r || decide (r = a))) : (hasC f).set a (.bool true) = hasC g := by
  unfold hasC
  apply List.ext_getElem?
  intro i
  rw [List.getElem?_set]
  by_cases hi : i < 256
  · rw [List.getElem?_map, List.getElem?_map, List.getElem?_range hi, Option.map_some, Option.map_some, h i hi]
    by_cases e : a = i
    · subst e
      simp [ha]
    · have : decide (i = a) = false := decide_eq_false (fun h => e h.symm)
      simp [e, this]
  · rw [List.getElem?_eq_none (by simp; omega), List.getElem?_eq_none (by simp; omega), if_neg (by omega)]
theorem hasC_congr {f g : Nat → Bool} (h : ∀ r, r < 256 → f r = g r) : hasC f = hasC g := by
  unfold hasC
  apply List.map_congr_left
  intro r hr
  rw [h r (List.mem_range.1 hr)]
theorem hasC_zero (ws : List Nat) (on : Nat → Bool) : hasC (FlowD.hasB ws on 0) = List.replicate 256 (.bool false) := by
  unfold hasC FlowD.hasB
  simp only [List.range_zero, List.any_nil]
  rw [List.map_const', List.length_range]
/-- How has stands while the words are gone through. -/
structure HsS (ws : List Nat) (on : Nat → Bool) (w1 W8 wr : World) (H j : Nat) : Prop where
  s : Has wr H 4 (hasC (FlowD.hasB ws on j))
  k : Keeps [H] W8 wr
  b : Below w1.heap.size w1 wr
/-- How the registers stand. -/
structure OuS (f : Nat → Bool) (w1 W8 wr : World) (j : Nat) (v : Value) : Prop where
  o : ∃ R : List Int, R = (((List.range j).filter f).map fun (r : Nat) => (r : Int)) ∧ wr.ownsRow W8.heap.size 3 1 v R.length (R.map (Value.int .i64)) ∧ R.length ≤ j
  k : Below W8.heap.size W8 wr
theorem OuS.shape {f : Nat → Bool} {w1 W8 wr : World} {j : Nat} {v : Value} (h : OuS f w1 W8 wr j v) : ∃ a k c, v = .slice a k c := by
  obtain ⟨R, -, h1, -⟩ := h.o
  exact own_slice_of h1
theorem OuS.skip {f : Nat → Bool} {w1 W8 wr : World} {j : Nat} {v : Value} (h : OuS f w1 W8 wr j v) (hf : f j = false) : OuS f w1 W8 wr (j + 1) v := by
  obtain ⟨R, h1, h2, h3⟩ := h.o
  refine ⟨⟨R, ?_, h2, by omega⟩, h.k⟩
  rw [h1, List.range_succ, List.filter_append]
  simp [hf]
theorem OuS.push {f : Nat → Bool} {w1 W8 wr : World} {j : Nat} {v : Value} (h : OuS f w1 W8 wr j v) (hf : f j = true) (hj : j ≤ 1000) :
    ∃ v2 W2, (Builtin.append_ #[26, 26] 26 #[v, .slice (some ⟨wr.heap.size, 0, none⟩) 1 1]).run Tryd.prog (wr.alloc (.cells #[.int .i64 (j : Int)] 3)) = .ok v2 W2 ∧ OuS f w1 W8 W2 (j + 1) v2 := by
  obtain ⟨R, h1, h2, h3⟩ := h.o
  have k : Keeps [] wr (wr.alloc (.cells #[.int .i64 (j : Int)] 3)) := Keeps.alloc [] wr _
  have ho := own_keeps h2 k (fun g hg => by simp)
  have hsz2 : W8.heap.size ≤ (wr.alloc (.cells #[.int .i64 (j : Int)] 3)).heap.size := Nat.le_trans h.k.size k.size
  obtain ⟨v2, W2, hrun, hown, hg, hv⟩ := app_int 26 (W := wr.alloc (.cells #[.int .i64 (j : Int)] 3)) (j : Int) ho (by omega) hsz2 wr.heap.size 1 ((Has.new wr 3 [.int .i64 (j : Int)]).cell 0)
  refine ⟨v2, W2, hrun, ⟨R ++ [(j : Int)], ?_, hown, by simp; omega⟩, (h.k.trans (k.toBelow _ h.k.size (by simp))).grown hg hsz2 (fun g hg' => (own_lt ho g hg').1)⟩
  rw [h1, List.range_succ, List.filter_append]
  simp [hf]
set_option maxRecDepth 100000 in
set_option maxHeartbeats 16000000 in
theorem refWrites_yes (p : PrV) (ws : List Nat) (n : Nat) (w : World) (hw : WordsAt w p ws) (hn : n < ws.length) (h64 : ws.length ≤ 64) (hok : okW (ws.getD n 0 : Nat) = true) (hop : opW (ws.getD n 0 : Nat) = 35 ∨ opW (ws.getD n 0 : Nat) = 36) :
    Calls Tryd.prog 19 #[p.agg, .int .i64 (n : Int)] w (WrIs w (WrD ws n)) := by
  obtain ⟨i0, hi, hz0, hz1, hz2⟩ := info_bool
  obtain ⟨g, o, hwa, hg, -⟩ := hw.at_ n _ (getD_some hn)
  have HWo := Lib.hid (fun (k : Nat) (hk : k < ws.length) => (by
    obtain ⟨g1, o1, h1, h2, h3⟩ := hw.at_ k _ (getD_some hk)
    rw [hwa] at h1
    injection h1 with h1
    injection h1 with h4 h5
    subst h4 h5
    exact h3 : w.cell? ⟨g, o + k, none⟩ = some (.int .u32 ((ws.getD k 0 : Nat) : Int))))
  have HDe : Hid (∀ (k : Nat) (W : World), k < ws.length → ∃ b c, Calls Tryd.prog 23 #[.int .u32 ((ws.getD k 0 : Nat) : Int)] W fun e w' => e = .returned (.tuple #[.agg #[.int .i64 (opW ((ws.getD k 0 : Nat) : Int)), .int .i64 (aW ((ws.getD k 0 : Nat) : Int)), .int .i64 b, .int .i64 c, .int .i64 (dW ((ws.getD k 0 : Nat) : Int))], .int .i64 (eW ((ws.getD k 0 : Nat) : Int))]) ∧ Below W.heap.size W w') := Lib.hid fun k W hk => by
    obtain ⟨b, c, h⟩ := answer_a ((ws.getD k 0 : Nat) : Int)
    have hm : ws.getD k 0 ∈ ws := List.mem_of_getElem? (getD_some hk)
    have := hw.lim _ hm
    exact ⟨b, c, by rw [← h]; exact refDecode_any _ (by omega) (by omega) W⟩
  have HP := Lib.hid (fun (W : World) (hW : Below w.heap.size w W) => refPost_any p ws n W (hw.below hW) h64 hn)
  have HN := Lib.hid (fun (W : World) (hW : Below w.heap.size w W) => refNext_any p ws (n : Int) W (hw.below hW) (by omega))
  have hnl : 1 ≤ (nextW ws n).length := by
    have := nextV_ne hn
    cases h : nextW ws n with
    | nil => exact absurd h this
    | cons x r => simp
  have hnl2 : (nextW ws n).length ≤ 1000 := by have := (nx_of ws).l n; omega
  have HRe := Lib.hid (fun (sh : Int) (F c : Nat) (W : World) (hW : Below w.heap.size w W) (hF : RowAt W F (nextW ws n)) (hsh : sh ≠ -1) => reach_any p ws (nextW ws n) sh F c W (hw.below hW) h64 hF ⟨hnl, hnl2⟩ ((nx_of ws).r n) hsh)
  obtain ⟨hx, hb⟩ := pr_box w p
  have hlen := hw.len
  obtain ⟨a0, n0, c0, rg, wa, m, wk, a3, n3, c3, a4, n4, c4, a5, n5, c5⟩ := p
  simp only at hwa hlen
  subst hwa
  simp only [PrV.cells, PrV.agg] at hx hb HP HN HRe ⊢
  obtain ⟨w1, hw1⟩ : ∃ w1, w.alloc (.cells #[.slice a0 n0 c0, .int .i64 rg, .slice (some ⟨g, o, none⟩) m wk, .slice a3 n3 c3, .slice a4 n4 c4, .slice a5 n5 c5] 28) = w1 := ⟨_, rfl⟩
  rw [hw1] at hx hb
  have HX : Hid (∀ W, Below w1.heap.size w1 W → (W.cell? ⟨w.heap.size, 0, none⟩ = some (.slice a0 n0 c0) ∧ W.cell? ⟨w.heap.size, 1, none⟩ = some (.int .i64 rg) ∧ W.cell? ⟨w.heap.size, 2, none⟩ = some (.slice (some ⟨g, o, none⟩) m wk) ∧ W.cell? ⟨w.heap.size, 3, none⟩ = some (.slice a3 n3 c3) ∧ W.cell? ⟨w.heap.size, 4, none⟩ = some (.slice a4 n4 c4) ∧ W.cell? ⟨w.heap.size, 5, none⟩ = some (.slice a5 n5 c5)) ∧ w.heap.size < W.heap.size ∧ Below w.heap.size w W ∧ w1.heap.size ≤ W.heap.size) := Lib.hid (fun W hW => by
    have g := hx.below hW hx.lt
    exact ⟨⟨g.cell 0, g.cell 1, g.cell 2, g.cell 3, g.cell 4, g.cell 5⟩, g.lt, hb.trans (hW.mono hb.size), hW.size⟩)
  have HB0 := Lib.hid (Below.refl w1.heap.size w1)
  have HW1 := Lib.hid hw1
  have HG : Hid (∀ (k : Nat) (W : World), k < ws.length → Below w.heap.size w W → W.cell? ⟨g, o + k, none⟩ = some (.int .u32 ((ws.getD k 0 : Nat) : Int)) ∧ g < W.heap.size) := Lib.hid fun k W hk hW => ⟨(hW.cell (p := ⟨g, o + k, none⟩) hg).trans (HWo.out k hk), Nat.lt_of_lt_of_le hg hW.size⟩
  obtain ⟨⟨x0, x1, x2, x3, x4, x5⟩, lx, hwb, -⟩ := HX.out _ HB0.out
  obtain ⟨cw, lg⟩ := HG.out n _ hn hwb
  obtain ⟨ib, ic, hD⟩ := HDe.out n w1 hn
  have he0 : eW ((ws.getD n 0 : Nat) : Int) = 0 := by unfold eW; rw [if_pos hok]
  rw [he0] at hD
  have HD1 := Lib.hid hD
  have HLm := Lib.hid hlen
  have h1m : 1 ≤ m := by omega
  have hm64 : m ≤ 64 := by omega
  have hnm : (n : Int) < (m : Int) := by omega
  have hn0i : (0 : Int) ≤ (n : Int) := by omega
  generalize aW ((ws.getD n 0 : Nat) : Int) = ia at HD1
  generalize dW ((ws.getD n 0 : Nat) : Int) = idd at HD1
  generalize opW ((ws.getD n 0 : Nat) : Int) = op at HD1 hop
  generalize ((ws.getD n 0 : Nat) : Int) = xn at cw HD1
  rw [← hw1] at x0 x1 x2 x3 x4 x5 lx cw lg
  clear hx hb hw hok he0 hD hwb hlen hw1 hg HWo
  go_enter Tryd.func19, Tryd.ntmps19
  go_wp2_with fail
  rw [HW1.out]
  rw [HW1.out] at x0 x1 x2 x3 x4 x5 lx cw lg
  refine HD1.out.mono ?_
  rintro e w2 ⟨rfl, hb2⟩
  have HB2 := Lib.hid (HB0.out.trans hb2)
  have HI2 := Lib.hid (Has.new w2 39 [.int .i64 op, .int .i64 ia, .int .i64 ib, .int .i64 ic, .int .i64 idd])
  have HB3 : Hid (Below w1.heap.size w1 (w2.alloc (.cells #[.int .i64 op, .int .i64 ia, .int .i64 ib, .int .i64 ic, .int .i64 idd] 39))) := Lib.hid (HB2.out.alloc HB2.out.size _)
  have hi3 := HI2.out
  clear hb2 x0 x1 x2 x3 x4 x5 lx cw lg HD1 HB0
  have i0c := hi3.cell 0
  have li := hi3.lt
  simp only [List.getElem?_cons_zero] at i0c
  clear hi3
  obtain ⟨w3, hw3⟩ : ∃ w3, w2.alloc (.cells #[.int .i64 op, .int .i64 ia, .int .i64 ib, .int .i64 ic, .int .i64 idd] 39) = w3 := ⟨_, rfl⟩
  have HW3 := Lib.hid hw3
  rw [hw3] at HB3
  obtain ⟨⟨d0, d1, d2, d3, d4, d5⟩, ld, hw3b, hsz3⟩ := HX.out _ HB3.out
  have HPs := Lib.hid (HP.out _ hw3b)
  clear hw3 hw3b
  go_upto_region 4 with fail
  go_cut [46] (fun c wx => c = .bool false ∧ Hid (wx = w3))
  case first =>
    rcases hop with rfl | rfl
    · go_wp2
      go_meet
      exact ⟨rfl, HW3⟩
    · go_wp2
      go_meet
      exact ⟨rfl, HW3⟩
  case rest =>
    obtain ⟨rfl, HWc⟩ := hcut
    obtain rfl := HWc.out
    obtain ⟨W3, rfl⟩ : ∃ W3, W3 = wc := ⟨_, rfl⟩
    clear HWc HW3 i0c li HI2
    go_wp2_with fail
    refine HPs.out.mono ?_
    rintro e w4 ⟨z, rfl, hz, hb4⟩
    have hzc := post_cases hz
    have HZ := Lib.hid hz
    have HB4 : Hid (Below w1.heap.size w1 w4) := Lib.hid (HB3.out.trans (hb4.mono hsz3))
    rw [← HLm.out] at hzc
    clear HPs hz hb4 d0 d1 d2 d3 d4 d5 ld hsz3 HB3 HB2
    go_upto_if 51 with fail
    go_cut [7] (fun s wx => s = .int .i64 (shO z) ∧ Hid (wx = w4))
    case first =>
      rcases hzc with rfl | ⟨q, rfl, hq⟩
      · go_wp2
        go_meet
        exact ⟨rfl, Lib.hid rfl⟩
      · have hqb : ((q : Int) == -1) = false := by simp
        go_wp2
        go_meet
        exact ⟨by unfold shO; rw [if_neg (by omega)], Lib.hid rfl⟩
    case rest =>
      obtain ⟨rfl, HWc⟩ := hcut
      obtain rfl := HWc.out
      obtain ⟨W4, rfl⟩ : ∃ W4, W4 = wc := ⟨_, rfl⟩
      have hsh : shO z ≠ -1 := by
        unfold shO
        split <;> omega
      have HR := Lib.hid (fun (F c : Nat) (W : World) (hW : Below w.heap.size w W) (hF : RowAt W F (nextW ws n)) => HRe.out (shO z) F c W hW hF hsh)
      obtain ⟨sz, hsz⟩ : ∃ sz, shO z = sz := ⟨_, rfl⟩
      rw [hsz] at HR hsh ⊢
      have HZ := Lib.hid (⟨HZ.out, hsz.symm⟩ : _ ∧ _)
      clear hsz
      clear HWc HRe hzc
      have HB5 : Hid (Below w1.heap.size w1 W4.drew) := Lib.hid HB4.out.drew
      obtain ⟨⟨d0, d1, d2, d3, d4, d5⟩, ld, -⟩ := HX.out _ HB5.out
      go_upto_region 9 with fail
      go_cut [8] (fun s wx => ∃ (O : Nat) (bs : Nat → Bool) (be : Bool), s = .slice (some ⟨O, 0, none⟩) (m + 1) (m + 1) ∧ Hid (Has wx O 4 (outC m bs be) ∧ (∀ x, x < m → (bs x = true ↔ ComeS (nextW ws n) (nextW ws) sz x)) ∧ Below w1.heap.size w1 wx))
      case first =>
        first
          | (go_region_with (first
              | (go_at_call 13
                 refine (HN.out _ (HX.out _ HB5.out).2.2.1).mono ?_
                 rintro e w5 ⟨v5, rfl, ho5, hb5⟩
                 obtain ⟨F, cF, rfl, hF5⟩ : ∃ F cF, v5 = .slice (some ⟨F, 0, none⟩) (nextW ws n).length cF ∧ RowAt w5 F (nextW ws n) := (by
                   rcases row_of_own ho5 with ⟨g5, -⟩ | ⟨gg, cap, g6, -, g8⟩
                   · rw [show nextV ws (n : Int) = nextW ws n from rfl] at g5
                     rw [g5] at hnl
                     simp at hnl
                   · exact ⟨gg, cap, g6, g8⟩)
                 have p5 : Below w1.heap.size w1 w5 := below_n HB5.out hb5 (Nat.le_refl _)
                 obtain ⟨⟨v0, v1, v2, v3, v4, v5⟩, lv, hw5, -⟩ := HX.out _ p5)
              | (go_at_call 34
                 refine (HR.out F cF _ hw5 hF5).mono ?_
                 intro e w6 hre
                 obtain ⟨O, bs, be, rfl, hO, hH, hcom, hend, hin, hb6⟩ := hre
                 have p6 : Below w1.heap.size w1 w6 := below_n p5 hb6 (Nat.le_refl _)
                 rw [← HLm.out] at hH hcom))
              )
          | fail
        all_goals
          go_wp2_with fail
          go_meet
          exact ⟨O, bs, be, by rw [HLm.out], Lib.hid ⟨hH, hcom, p6⟩⟩
      case rest =>
        obtain ⟨O, bs, be, rfl, HD9⟩ := hcut
        obtain ⟨W9, rfl⟩ : ∃ W9, W9 = wc := ⟨_, rfl⟩
        clear d0 d1 d2 d3 d4 d5 ld HB5 HB4 HR HN HP
        go_wp2_with (at_make; refine wpList_make_full _ rfl _ _ 35 rfl W9.heap.size 4 i0 (.bool false) 1 Tryd.underlying35 hi hz0 hz1 .i64 .i64 (256 : Int) (256 : Int) 256 rfl rfl rfl rfl ?c1 ?c2 ?c3 ?_)
        case c1 => rw [hz2]; omega
        case c2 => unfold maxLen; omega
        case c3 => exact Nat.le_refl _
        intro w10 hrow hgrow
        have hh := made_has hrow
        have hb10 : Below W9.heap.size W9 w10 := (Below.refl _ W9).grown hgrow (Nat.le_refl _) (fun k hk => by cases hk)
        obtain ⟨H, hH⟩ : ∃ H, W9.heap.size = H := ⟨_, rfl⟩
        have HHw : Hid (w1.heap.size ≤ H ∧ O < H) := Lib.hid ⟨by rw [← hH]; exact HD9.out.2.2.size, by rw [← hH]; exact HD9.out.1.lt⟩
        have HB10 : Hid (Below w1.heap.size w1 w10) := Lib.hid (HD9.out.2.2.trans (hb10.mono HD9.out.2.2.size))
        rw [hH] at hh ⊢
        have HO10 : Hid (∀ W, Keeps [H] w10 W → ∀ x, x < m → W.cell? ⟨O, x, none⟩ = some (.bool (bs x)) ∧ O < W.heap.size) := Lib.hid fun W hW x hx => by
          have h1 := (HD9.out.1.below hb10 HD9.out.1.lt).keeps hW (by have := HHw.out.2; simp; omega)
          exact ⟨(h1.cell x).trans (out_get hx), h1.lt⟩
        have HS10 : Hid (HsS ws bs w1 w10 w10 H 0) := Lib.hid ⟨by rw [hasC_zero]; exact hh, Keeps.refl _ _, HB10.out⟩
        have HRg : Hid (∀ z, PostSpec (nextW ws) ws.length n z → sz = shO z → WrD ws n (FlowD.hasB ws bs m)) := Lib.hid fun z hz e => by
          refine ⟨z, hz, ?_⟩
          rw [← e, HLm.out]
          exact has_all (fun x hx => HD9.out.2.1 x (by rw [HLm.out]; exact hx))
        obtain ⟨⟨x0, x1, x2, x3, x4, x5⟩, lx, hwb, -⟩ := HX.out _ HB10.out
        clear hrow hgrow hh hb10 hH hi hz0 hz1 hz2 HD9 hwb
        go_wp2
        go_loopg [62] m (fun k i wr => ∃ j : Nat, i = .int .i64 (j : Int) ∧ j ≤ m ∧ k + j = m ∧ Hid (HsS ws bs w1 w10 wr H j))
        case atStart => exact ⟨0, rfl, by omega, by omega, HS10⟩
        case round =>
          obtain ⟨j, rfl, hj, hk, HS⟩ := hrel
          clear HS10 x0 x1 x2 x3 x4 x5 lx
          by_cases hlt : j < m
          · have hi1 : (j : Int) < (m : Int) := by omega
            have hi1b : (j : Int) < (m : Int) + 1 := by omega
            have hi0 : (0 : Int) ≤ (j : Int) := by omega
            have HYw : Hid (j < ws.length) := Lib.hid (by rw [← HLm.out]; exact hlt)
            obtain ⟨-, -, hwb, -⟩ := HX.out _ HS.out.b
            obtain ⟨cw, lg⟩ := HG.out j _ HYw.out hwb
            obtain ⟨yb, yc, hD⟩ := HDe.out j wr HYw.out
            have HD := Lib.hid hD
            have HAr := Lib.hid (a_range ((ws.getD j 0 : Nat) : Int))
            obtain ⟨av, hav⟩ : ∃ av : Nat, aW ((ws.getD j 0 : Nat) : Int) = (av : Int) := ⟨(aW ((ws.getD j 0 : Nat) : Int)).toNat, by have := HAr.out; omega⟩
            have hav256 : av < 256 := by have := HAr.out; omega
            have HSk : Hid ((bs j && (okW ((ws.getD j 0 : Nat) : Int) && wrB (opW ((ws.getD j 0 : Nat) : Int)))) = false → ∀ W, Keeps [] wr W → HsS ws bs w1 w10 W H (j + 1)) := Lib.hid fun hw W hW => by
              refine ⟨?_, HS.out.k.trans hW (by simp), HS.out.b.trans (hW.toBelow _ HS.out.b.size (by simp))⟩
              rw [hasC_congr (g := FlowD.hasB ws bs j) (fun r _ => by
                rw [has_step]
                unfold wrW
                rw [← Bool.and_assoc, hw]
                simp)]
              exact HS.out.s.keeps hW (by simp)
            have HPu : Hid ((bs j && (okW ((ws.getD j 0 : Nat) : Int) && wrB (opW ((ws.getD j 0 : Nat) : Int)))) = true → ∀ W, Keeps [] wr W → (∃ old, W.cell? ⟨H, av, none⟩ = some old) ∧ W.frozen? ⟨H, av, none⟩ = false ∧ H < W.heap.size ∧ HsS ws bs w1 w10 (W.setCell ⟨H, av, none⟩ (.bool true)) H (j + 1)) := Lib.hid fun hw W hW => by
              have hs := HS.out.s.keeps hW (by simp)
              refine ⟨⟨_, (hs.cell av).trans (hasC_get hav256)⟩, hs.frozen av, hs.lt, ?_, (HS.out.k.trans hW (by simp)).trans (Keeps.set _ _ _ _) (by simp), (HS.out.b.trans (hW.toBelow _ HS.out.b.size (by simp))).trans ((Keeps.set _ _ _ _).toBelow _ (Nat.le_trans HS.out.b.size hW.size) (fun x hx => by simp at hx; rw [hx]; exact HHw.out.1))⟩
              have := hs.set av (.bool true)
              rw [hasC_set (g := FlowD.hasB ws bs (j + 1)) hav256 (fun r _ => by
                rw [has_step]
                unfold wrW
                rw [← Bool.and_assoc, hw, hav]
                simp only [Bool.true_and]
                congr 1
                rw [Bool.eq_iff_iff, decide_eq_true_eq, decide_eq_true_eq]
                omega)] at this
              exact this
            have HEe : Hid (eW ((ws.getD j 0 : Nat) : Int) = if okW ((ws.getD j 0 : Nat) : Int) then 0 else 1) := Lib.hid rfl
            have HOp : Hid (okW ((ws.getD j 0 : Nat) : Int) = true → opW ((ws.getD j 0 : Nat) : Int) ≠ 20) := Lib.hid fun h => (ok_op h).2.2
            rw [hav] at HD
            have HOx : Hid (∀ W, Keeps [] wr W → W.cell? ⟨O, j, none⟩ = some (.bool (bs j)) ∧ O < W.heap.size) := Lib.hid fun W hW => HO10.out W (HS.out.k.trans hW (by simp)) j hlt
            clear hD HAr hav hwb
            generalize dW ((ws.getD j 0 : Nat) : Int) = yd at HD
            generalize opW ((ws.getD j 0 : Nat) : Int) = yo at HD HSk HPu HOp
            generalize eW ((ws.getD j 0 : Nat) : Int) = ye at HD HEe
            generalize okW ((ws.getD j 0 : Nat) : Int) = yk at HSk HPu HEe HOp
            generalize ((ws.getD j 0 : Nat) : Int) = yx at HD cw
            generalize bs j = bj at HSk HPu HOx
            clear HS
            go_wp2_with fail
            refine HD.out.mono ?_
            rintro e w12 ⟨rfl, hb12⟩
            have hk12 : Keeps [] wr (w12.alloc (.cells #[.int .i64 yo, .int .i64 (av : Int), .int .i64 yb, .int .i64 yc, .int .i64 yd] 39)) := (Keeps.below' hb12 []).trans (Keeps.alloc [] w12 _) (by simp)
            have HK12 := Lib.hid hk12
            obtain ⟨co, lo⟩ := HOx.out _ hk12
            clear HD hb12 hk12 cw lg HOx
            cases bj
            · have HS2 := Lib.hid (HSk.out (by simp) _ HK12.out)
              clear HSk HPu HEe HK12 HOp
              go_wp2
              go_roundg (gk - 1)
              case measure => omega
              case rel => exact ⟨j + 1, by go_num, by omega, by omega, HS2⟩
            · cases yk
              · have he : ye = 1 := HEe.out
                subst he
                have HS2 := Lib.hid (HSk.out (by simp) _ HK12.out)
                clear HSk HPu HEe HK12 HOp
                go_wp2
                go_roundg (gk - 1)
                case measure => omega
                case rel => exact ⟨j + 1, by go_num, by omega, by omega, HS2⟩
              · have he : ye = 0 := HEe.out
                subst he
                have HWr := Lib.hid (fun W => refWrites_any yo (HOp.out rfl) W)
                obtain ⟨yw, hyw⟩ : ∃ yw, wrB yo = yw := ⟨_, rfl⟩
                rw [hyw] at HWr HSk HPu
                clear hyw HEe HOp
                go_wp2_with fail
                refine (HWr.out _).mono ?_
                rintro e w13 ⟨rfl, hw13⟩
                subst hw13
                cases yw
                · have HS2 := Lib.hid (HSk.out (by simp) _ HK12.out)
                  clear HSk HPu HK12 HWr
                  go_wp2
                  go_roundg (gk - 1)
                  case measure => omega
                  case rel => exact ⟨j + 1, by go_num, by omega, by omega, HS2⟩
                · obtain ⟨⟨old, ch⟩, fh, lh, h4⟩ := HPu.out (by simp) _ HK12.out
                  have HS2 := Lib.hid h4
                  have hav1 : (av : Int) < 256 := by omega
                  have hav0 : (0 : Int) ≤ (av : Int) := by omega
                  clear HSk HPu HK12 HWr h4
                  go_wp2
                  go_roundg (gk - 1)
                  case measure => omega
                  case rel => exact ⟨j + 1, by go_num, by omega, by omega, HS2⟩
          · have hjm : j = m := by omega
            subst hjm
            have HS0 : Hid (OuS (FlowD.hasB ws bs j) w1 wr wr 0 (.slice none 0 0)) := Lib.hid ⟨⟨[], rfl, World.ownsRow_nil _ _ _ _, by simp⟩, Below.refl _ _⟩
            have HHs : Hid (∀ W, Below wr.heap.size wr W → ∀ r, r < 256 → W.cell? ⟨H, r, none⟩ = some (.bool (FlowD.hasB ws bs j r)) ∧ H < W.heap.size) := Lib.hid fun W hW r hr => by
              have h := HS.out.s.below hW HS.out.s.lt
              exact ⟨(h.cell r).trans (hasC_get hr), h.lt⟩
            have HBw : Hid (∀ W, Below wr.heap.size wr W → Below w.heap.size w W) := Lib.hid fun W hW => (HX.out _ (HS.out.b.trans (hW.mono HS.out.b.size))).2.2.1
            have HSz : Hid (w.heap.size ≤ wr.heap.size) := Lib.hid (HX.out _ HS.out.b).2.2.1.size
            have HWd : Hid (WrD ws n (FlowD.hasB ws bs j)) := Lib.hid (HRg.out _ HZ.out.1 HZ.out.2)
            generalize FlowD.hasB ws bs j = fb at HS0 HHs HWd
            obtain ⟨wq, rfl⟩ : ∃ wq, wq = wr := ⟨_, rfl⟩
            clear HS HO10 HRg
            go_wp2
            go_loopg [92, 14] 256 (fun k i sv wr => ∃ (j : Nat) (v : Value), i = .int .i64 (j : Int) ∧ v = sv ∧ j ≤ 256 ∧ k + j = 256 ∧ Hid (OuS fb w1 wq wr j v))
            case atStart => exact ⟨0, _, rfl, rfl, by omega, by omega, HS0⟩
            case round =>
              obtain ⟨r, v, rfl, rfl, hr, hk2, HT⟩ := hrel
              clear HS0
              obtain ⟨va, vk, vc, rfl⟩ := HT.out.shape
              by_cases hlt2 : r < 256
              · have hr1 : (r : Int) < 256 := by omega
                have hr0 : (0 : Int) ≤ (r : Int) := by omega
                obtain ⟨ch, lh⟩ := HHs.out wr HT.out.k r hlt2
                obtain ⟨b, hb⟩ : ∃ b, fb r = b := ⟨_, rfl⟩
                rw [hb] at ch
                cases b
                · have HT2 := Lib.hid (HT.out.skip hb)
                  clear HT hb
                  go_wp2
                  go_roundg (gk - 1)
                  case measure => omega
                  case rel => exact ⟨r + 1, _, by go_num, rfl, by omega, by omega, HT2⟩
                · obtain ⟨v7, w7, hrun7, HS7⟩ := HT.out.push hb (by omega)
                  have HRun7 := Lib.hid hrun7
                  have HT2 := Lib.hid HS7
                  clear HT hb hrun7 HS7
                  go_wp2_with (at_builtin; refine wpList_append_run (by rfl) (.tmp 98) (.tmp 100) 26 rfl _ _ _ _ rfl rfl HRun7.out ?_)
                  go_roundg (gk - 1)
                  case measure => omega
                  case rel => exact ⟨r + 1, _, by go_num, rfl, by omega, by omega, HT2⟩
              · have hrm : r = 256 := by omega
                subst hrm
                have HF : Hid (WrIs w (WrD ws n) (.returned (.slice va vk vc)) wr) := Lib.hid (by
                  obtain ⟨R, h1, h2, h3⟩ := HT.out.o
                  exact ⟨_, fb, rfl, by
                    have e : R = regsL fb := h1
                    rw [← e]
                    exact own_base h2 HSz.out, HWd.out, HBw.out _ HT.out.k⟩)
                clear HT
                go_wp2
                go_ret
                exact HF.out
end FlowDz
end Go.Proofs.YtajhkogknpmnbaaDoor
