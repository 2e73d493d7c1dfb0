/- The registers that are written: the program's. (Written by mk_writes.py.) -/
import Derived.Test.YtajhkogknpmnbaaDoorFlowZ5
import Derived.Deep.DeepCutAuto
namespace Go.Proofs.YtajhkogknpmnbaaDoor
open Go.RowKit ObjM
namespace FlowDz
open FlowD FlowM LabelM LabelD InstrM InstrD

set_option maxRecDepth 100000 in
theorem writes1_any (p : PrV) (ws : List Nat) (bx n : Nat) (W : World) (hw : WordsAt W p ws) (hT : Tabs W) (hn : n ≤ 1000000) (hb : Has W bx 28 p.cells) :
    Calls Tryd.prog 36 #[.int .i64 (n : Int), .pointer (some ⟨bx, 0, none⟩)] W (IntsIs W (nextV ws (n : Int))) := by
  have HN := Lib.hid (next_any p ws (n : Int) W hw (by omega) hT)
  have l := hb.lt
  obtain ⟨a0, n0, c0, rg, wa, wn, wk, a3, n3, c3, a4, n4, c4, a5, n5, c5⟩ := p
  have x0 := hb.cell 0
  have x1 := hb.cell 1
  have x2 := hb.cell 2
  have x3 := hb.cell 3
  have x4 := hb.cell 4
  have x5 := hb.cell 5
  simp only [PrV.cells, List.getElem?_cons_zero, List.getElem?_cons_succ] at x0 x1 x2 x3 x4 x5
  simp only [PrV.agg] at HN
  clear hw hT hb
  go_enter Tryd.func36, Tryd.ntmps36
  go_wp2_with fail
  refine HN.out.mono ?_
  rintro e w2 ⟨v, rfl, ho, hb2⟩
  have HE : Hid (IntsIs W (nextV ws (n : Int)) (.returned v) w2) := Lib.hid ⟨v, rfl, ho, hb2⟩
  obtain ⟨a, k, c, rfl⟩ := own_slice_of ho
  clear HN ho hb2
  go_wp2
  go_ret
  exact HE.out
def shO (z : Int) : Int := if z = -1 then -2 else z
/-- What is handed back: a row of the registers. -/
def WrIs (w : World) (P : (Nat → Bool) → Prop) (e : Ending) (w' : World) : Prop := ∃ v f, e = .returned v ∧ w'.ownsRow w.heap.size 3 1 v (regsL f).length ((regsL f).map (Value.int .i64)) ∧ P f ∧ Below w.heap.size w w'
def WrP (ws : List Nat) (n : Nat) (f : Nat → Bool) : Prop := ∃ z, PostSpec (nextW ws) ws.length n z ∧ RegS ws (fun x => x ≠ n ∧ ComeS (nextW ws n) (nextW ws) (shO z) x) f
def SeenP (n s0 : Nat) (z : Int) : Prop := ∀ y : Nat, s0.testBit y = (y == n || decide ((y : Int) = shO z))
theorem seen_one (n : Nat) : SeenP n (0 ||| 2 ^ n) (-1) := by
  intro y
  rw [test_or_pow]
  have : decide ((y : Int) = shO (-1)) = false := decide_eq_false (by unfold shO; rw [if_pos rfl]; omega)
  rw [this]
  simp only [Nat.zero_testBit, Bool.false_or, Bool.or_false]
  rw [Bool.eq_iff_iff, decide_eq_true_eq, beq_iff_eq]
  exact ⟨Eq.symm, Eq.symm⟩
theorem seen_two (n q : Nat) : SeenP n ((0 ||| 2 ^ n) ||| 2 ^ q) (q : Int) := by
  intro y
  rw [test_or_pow, test_or_pow]
  have : decide ((y : Int) = shO (q : Int)) = decide (q = y) := by
    unfold shO
    rw [if_neg (by omega), Bool.eq_iff_iff, decide_eq_true_eq, decide_eq_true_eq]
    omega
  rw [this]
  simp only [Nat.zero_testBit, Bool.false_or]
  congr 1
  rw [Bool.eq_iff_iff, decide_eq_true_eq, beq_iff_eq]
  exact ⟨Eq.symm, Eq.symm⟩
theorem getD_some {ws : List Nat} {k : Nat} (h : k < ws.length) : ws[k]? = some (ws.getD k 0) := by
  rw [List.getD_eq_getElem?_getD, List.getElem?_eq_getElem h]
  rfl
theorem post_cases {next : Nat → List Int} {m n : Nat} {z : Int} (h : PostSpec next m n z) : z = -1 ∨ ∃ q : Nat, z = (q : Int) ∧ q < m := by
  rcases h with ⟨rfl, -⟩ | ⟨p, rfl, h, -⟩
  · exact .inl rfl
  · exact .inr ⟨p, rfl, h⟩
/-- How the registers stand while the words are gone through. -/
structure RgS (ws : List Nat) (w W8 wr : World) (G2 : Nat) (R : List Int) (j : Nat) : Prop where
  s : ∃ xs, Set4 wr G2 xs ∧ ∀ r, r < 256 → (bitX xs r = true ↔ ∃ z ∈ R.take j, wrW ws z.toNat r = true)
  k : Keeps [G2] W8 wr
  b : Below w.heap.size w wr
theorem regs_of {ws : List Nat} {n s0 : Nat} {z : Int} {R : List Int} {xs : List Nat} (hz : PostSpec (nextW ws) ws.length n z) (hs : SeenP n s0 z)
    (hR : ∀ x : Nat, (x : Int) ∈ R ↔ Come ((nextW ws n).map toO) (nxO (nextW ws)) (fun y => s0.testBit y) x) (hlt : ∀ z ∈ R, 0 ≤ z ∧ z < ws.length)
    (hx : ∀ r, r < 256 → (bitX xs r = true ↔ ∃ z ∈ R, wrW ws z.toNat r = true)) : WrP ws n (bitX xs) := by
  refine ⟨z, hz, fun r hr => ?_⟩
  rw [hx r hr]
  constructor
  · rintro ⟨y, h1, h2⟩
    obtain ⟨h3, h4⟩ := hlt y h1
    obtain ⟨k, rfl⟩ := Int.eq_ofNat_of_zero_le h3
    exact ⟨k, by omega, (come_both hs).1 ((hR k).1 h1), h2⟩
  · rintro ⟨k, h1, h2, h3⟩
    exact ⟨(k : Int), (hR k).2 ((come_both hs).2 h2), h3⟩
set_option maxRecDepth 100000 in
set_option maxHeartbeats 16000000 in
theorem writes_yes (p : PrV) (ws : List Nat) (n : Nat) (w : World) (hw : WordsAt w p ws) (hT : Tabs w) (hBr : Bru w) (hgb : 0 < w.heap.size) (hn : n < ws.length) (h64 : ws.length ≤ 64) (hok : okW (ws.getD n 0 : Nat) = true) (hop : opW (ws.getD n 0 : Nat) = 35 ∨ opW (ws.getD n 0 : Nat) = 36) :
    Calls Tryd.prog 18 #[p.agg, .int .i64 (n : Int)] w (WrIs w (WrP ws n)) := by
  obtain ⟨g, o, hwa, hg, -⟩ := hw.at_ n _ (getD_some hn)
  have HTB : Hid (∀ W, Below w.heap.size w W → Tabs W ∧ Bru W ∧ 0 < W.heap.size) := Lib.hid fun W hW => ⟨hT.below hW, fun j hj => (hW.cell (p := ⟨_, j, none⟩) hgb).trans (hBr j hj), Nat.lt_of_lt_of_le hgb hW.size⟩
  have HWo := Lib.hid (fun (k : Nat) (hk : k < ws.length) => (by
    obtain ⟨g1, o1, h1, h2, h3⟩ := hw.at_ k _ (getD_some hk)
    rw [hwa] at h1
    injection h1 with h1
    injection h1 with h4 h5
    subst h4 h5
    exact h3 : w.cell? ⟨g, o + k, none⟩ = some (.int .u32 ((ws.getD k 0 : Nat) : Int))))
  have HDe : Hid (∀ (k : Nat) (W : World), k < ws.length → Tabs W → ∃ b c, Calls Tryd.prog 20 #[.int .u32 ((ws.getD k 0 : Nat) : Int)] W fun e w' => e = .returned (.tuple #[.agg #[.int .i64 (opW ((ws.getD k 0 : Nat) : Int)), .int .i64 (aW ((ws.getD k 0 : Nat) : Int)), .int .i64 b, .int .i64 c, .int .i64 (dW ((ws.getD k 0 : Nat) : Int))], .int .i64 (eW ((ws.getD k 0 : Nat) : Int))]) ∧ Below W.heap.size W w') := Lib.hid fun k W hk hT => by
    obtain ⟨b, c, h⟩ := answer_a ((ws.getD k 0 : Nat) : Int)
    have hm : ws.getD k 0 ∈ ws := List.mem_of_getElem? (getD_some hk)
    have := hw.lim _ hm
    exact ⟨b, c, by rw [← h]; exact decode_w _ (by omega) (by omega) W hT⟩
  have HP := Lib.hid (fun (W : World) (hW : Below w.heap.size w W) => posts_any p ws W (hw.below hW) (HTB.out _ hW).1 (HTB.out _ hW).2.1 (HTB.out _ hW).2.2 h64)
  have HN := Lib.hid (fun (W : World) (hW : Below w.heap.size w W) => next_any p ws (n : Int) W (hw.below hW) (by omega) (HTB.out _ hW).1)
  have HW1n := Lib.hid (fun (bx k : Nat) (W : World) (hW : Below w.heap.size w W) (hk : k < ws.length) (hb : Has W bx 28 p.cells) => writes1_any p ws bx k W (hw.below hW) (HTB.out _ hW).1 (by omega) hb)
  have HNX := Lib.hid (nx_of ws)
  obtain ⟨hx, hb⟩ := pr_box w p
  have hlen := hw.len
  obtain ⟨a0, n0, c0, rg, wa, m, wk, a3, n3, c3, a4, n4, c4, a5, n5, c5⟩ := p
  simp only at hwa hlen
  subst hwa
  simp only [PrV.cells, PrV.agg] at hx hb HP HN HW1n ⊢
  obtain ⟨w1, hw1⟩ : ∃ w1, w.alloc (.cells #[.slice a0 n0 c0, .int .i64 rg, .slice (some ⟨g, o, none⟩) m wk, .slice a3 n3 c3, .slice a4 n4 c4, .slice a5 n5 c5] 28) = w1 := ⟨_, rfl⟩
  rw [hw1] at hx hb
  have HX : Hid (∀ W, Below w1.heap.size w1 W → (W.cell? ⟨w.heap.size, 0, none⟩ = some (.slice a0 n0 c0) ∧ W.cell? ⟨w.heap.size, 1, none⟩ = some (.int .i64 rg) ∧ W.cell? ⟨w.heap.size, 2, none⟩ = some (.slice (some ⟨g, o, none⟩) m wk) ∧ W.cell? ⟨w.heap.size, 3, none⟩ = some (.slice a3 n3 c3) ∧ W.cell? ⟨w.heap.size, 4, none⟩ = some (.slice a4 n4 c4) ∧ W.cell? ⟨w.heap.size, 5, none⟩ = some (.slice a5 n5 c5)) ∧ w.heap.size < W.heap.size ∧ Below w.heap.size w W ∧ w1.heap.size ≤ W.heap.size ∧ Has W w.heap.size 28 [.slice a0 n0 c0, .int .i64 rg, .slice (some ⟨g, o, none⟩) m wk, .slice a3 n3 c3, .slice a4 n4 c4, .slice a5 n5 c5]) := Lib.hid (fun W hW => by
    have g := hx.below hW hx.lt
    exact ⟨⟨g.cell 0, g.cell 1, g.cell 2, g.cell 3, g.cell 4, g.cell 5⟩, g.lt, hb.trans (hW.mono hb.size), hW.size, g⟩)
  have HB0 := Lib.hid (Below.refl w1.heap.size w1)
  have HW1 := Lib.hid hw1
  have HG : Hid (∀ (k : Nat) (W : World), k < ws.length → Below w.heap.size w W → W.cell? ⟨g, o + k, none⟩ = some (.int .u32 ((ws.getD k 0 : Nat) : Int)) ∧ g < W.heap.size) := Lib.hid fun k W hk hW => ⟨(hW.cell (p := ⟨g, o + k, none⟩) hg).trans (HWo.out k hk), Nat.lt_of_lt_of_le hg hW.size⟩
  obtain ⟨⟨x0, x1, x2, x3, x4, x5⟩, lx, hwb, -⟩ := HX.out _ HB0.out
  obtain ⟨cw, lg⟩ := HG.out n _ hn hwb
  have ht1 := (HTB.out _ hwb).1
  obtain ⟨ib, ic, hD⟩ := HDe.out n w1 hn ht1
  have he0 : eW ((ws.getD n 0 : Nat) : Int) = 0 := by unfold eW; rw [if_pos hok]
  rw [he0] at hD
  have HD1 := Lib.hid hD
  have HLm := Lib.hid hlen
  have h1m : 1 ≤ m := by omega
  have hm64 : m ≤ 64 := by omega
  have hnm : (n : Int) < (m : Int) := by omega
  have hn0i : (0 : Int) ≤ (n : Int) := by omega
  have hn64 : n < 64 := by omega
  generalize aW ((ws.getD n 0 : Nat) : Int) = ia at HD1
  generalize dW ((ws.getD n 0 : Nat) : Int) = idd at HD1
  generalize opW ((ws.getD n 0 : Nat) : Int) = op at HD1 hop
  generalize ((ws.getD n 0 : Nat) : Int) = xn at cw HD1
  rw [← hw1] at x0 x1 x2 x3 x4 x5 lx cw lg
  clear hx hb hw hT hBr hgb hok he0 hD hwb ht1 hlen hw1 hg HWo
  go_enter Tryd.func18, Tryd.ntmps18
  go_wp2_with fail
  rw [HW1.out]
  rw [HW1.out] at x0 x1 x2 x3 x4 x5 lx cw lg
  refine HD1.out.mono ?_
  rintro e w2 ⟨rfl, hb2⟩
  have HB2 := Lib.hid (HB0.out.trans hb2)
  have HI2 := Lib.hid (Has.new w2 39 [.int .i64 op, .int .i64 ia, .int .i64 ib, .int .i64 ic, .int .i64 idd])
  have HB3 : Hid (Below w1.heap.size w1 (w2.alloc (.cells #[.int .i64 op, .int .i64 ia, .int .i64 ib, .int .i64 ic, .int .i64 idd] 39))) := Lib.hid (HB2.out.alloc HB2.out.size _)
  have hi3 := HI2.out
  clear hb2 x0 x1 x2 x3 x4 x5 lx cw lg HD1 HB0
  have i0 := hi3.cell 0
  have li := hi3.lt
  simp only [List.getElem?_cons_zero] at i0
  clear hi3
  obtain ⟨w3, hw3⟩ : ∃ w3, w2.alloc (.cells #[.int .i64 op, .int .i64 ia, .int .i64 ib, .int .i64 ic, .int .i64 idd] 39) = w3 := ⟨_, rfl⟩
  have HW3 := Lib.hid hw3
  rw [hw3] at HB3
  have HFn3 : Hid (w3 = w3) := Lib.hid rfl
  obtain ⟨⟨d0, d1, d2, d3, d4, d5⟩, ld, hw3b, hsz3, -⟩ := HX.out _ HB3.out
  have HW3b := Lib.hid hw3b
  have HNs := Lib.hid (newSet_one (m : Int) (by omega) (by omega) w3)
  clear hw3 hw3b
  go_upto_region 4 with fail
  go_cut [43] (fun c wx => c = .bool false ∧ Hid (wx = w3))
  case first =>
    rcases hop with rfl | rfl
    · go_wp2
      go_meet
      exact ⟨rfl, HW3⟩
    · go_wp2
      go_meet
      exact ⟨rfl, HW3⟩
  case rest =>
    obtain ⟨rfl, HWc⟩ := hcut
    obtain rfl := HWc.out
    clear HWc HW3 HFn3 i0 li HI2
    obtain ⟨W3, rfl⟩ : ∃ W3, W3 = wc := ⟨_, rfl⟩
    go_wp2_with fail
    refine HNs.out.mono ?_
    rintro e w4 ⟨rfl, hs4, hb4⟩
    obtain ⟨G, hG⟩ : ∃ G, W3.heap.size = G := ⟨_, rfl⟩
    have hGw1 : w1.heap.size ≤ G := by rw [← hG]; exact hsz3
    have hb4' : Below w1.heap.size w1 w4 := HB3.out.trans (hb4.mono hsz3)
    rw [hG] at hs4 ⊢
    have HA := Lib.hid (add_one G 0 1 n hn64 w4 hs4 (by decide))
    have HB4 := Lib.hid hb4'
    have HGw := Lib.hid hGw1
    clear HNs hs4 hb4 hb4' hG hGw1 d0 d1 d2 d3 d4 d5 ld hsz3 HB3 HB2 HW3b
    go_wp2_with fail
    refine HA.out.mono ?_
    rintro e w5 ⟨rfl, hs5, k5⟩
    have hb5 : Below w1.heap.size w1 w5 := HB4.out.trans (k5.toBelow _ HB4.out.size (fun x hx => by simp at hx; rw [hx]; exact HGw.out))
    obtain ⟨⟨d0, d1, d2, d3, d4, d5⟩, ld, hw5, hz5, -⟩ := HX.out _ hb5
    have HP5 := Lib.hid (HP.out _ hw5)
    have HB5 := Lib.hid hb5
    have HS5 := Lib.hid hs5
    clear HA HB4 hs5 k5 hb5 hw5 hz5
    go_wp2_with fail
    refine HP5.out.mono ?_
    rintro e w6 ⟨Q, R, rfl, hQ, hrow, hRl, hsp, hb6⟩
    rw [← HLm.out]
    have hnR : n < R.length := by rw [hRl, ← HLm.out]; omega
    have cQ := hrow.cell hnR
    have lQ := hrow.lt
    have HZ := Lib.hid (hsp n hnR)
    have hzc := post_cases HZ.out
    have HB6 : Hid (Below w1.heap.size w1 w6) := Lib.hid (HB5.out.trans (hb6.mono HB5.out.size))
    have HS6 : Hid (SetAt w6 G (0 ||| 2 ^ n)) := Lib.hid (Has.below HS5.out hb6 (Has.lt HS5.out))
    generalize R[n] = z at cQ HZ hzc
    have hnm2 : (n : Int) < (m : Int) := hnm
    clear HP5 HS5 HB5 hQ hrow hRl hsp hb6 d0 d1 d2 d3 d4 d5 ld
    rw [← HLm.out] at hzc
    go_upto_if 57 with fail
    go_cut [] (fun wx => Hid (∃ s0, SetAt wx G s0 ∧ SeenP n s0 z ∧ s0 < M64 ∧ Below w1.heap.size w1 wx))
    case first =>
      rcases hzc with rfl | ⟨q, rfl, hq⟩
      · go_wp2
        go_meet
        exact Lib.hid ⟨_, HS6.out, seen_one n, or_lt (by decide) hn64, HB6.out⟩
      · have hqb : ((q : Int) != -1) = true := by simp
        have hq64 : q < 64 := by omega
        have HA2 := Lib.hid (add_one G (0 ||| 2 ^ n) 1 q hq64 w6 HS6.out (or_lt (by decide) hn64))
        go_wp2_with fail
        refine HA2.out.mono ?_
        rintro e w7 ⟨rfl, hs7, k7⟩
        have HE : Hid (∃ s0, SetAt w7 G s0 ∧ SeenP n s0 (q : Int) ∧ s0 < M64 ∧ Below w1.heap.size w1 w7) := Lib.hid ⟨_, hs7, seen_two n q, or_lt (or_lt (by decide) hn64) hq64, HB6.out.trans (k7.toBelow _ HB6.out.size (fun x hx => by simp at hx; rw [hx]; exact HGw.out))⟩
        clear HA2 hs7 k7
        go_wp2
        go_meet
        exact HE
    case rest =>
      clear HB6 HS6 cQ lQ hzc
      obtain ⟨W7, rfl⟩ : ∃ W7, W7 = wc := ⟨_, rfl⟩
      obtain ⟨s0, hs7, hseen, hs0, hb7⟩ := hcut.out
      have HN4 := Lib.hid (newSet_four W7)
      have HB7 := Lib.hid hb7
      have HS7 := Lib.hid hs7
      have HSe := Lib.hid (⟨hseen, hs0⟩ : _ ∧ _)
      clear hcut hs7 hseen hs0 hb7
      go_wp2_with fail
      refine HN4.out.mono ?_
      rintro e w8 ⟨rfl, hs8, hb8⟩
      obtain ⟨G2, hG2⟩ : ∃ G2, W7.heap.size = G2 := ⟨_, rfl⟩
      have hGl : G < W7.heap.size := Has.lt HS7.out
      rw [hG2] at hs8 hGl ⊢
      have hb8' : Below w1.heap.size w1 w8 := HB7.out.trans (hb8.mono HB7.out.size)
      obtain ⟨⟨d0, d1, d2, d3, d4, d5⟩, ld, hw8, hz8, -⟩ := HX.out _ hb8'
      have HN8 := Lib.hid (HN.out _ hw8)
      have HB8 := Lib.hid hb8'
      have HS8 : Hid (SetAt w8 G s0 ∧ Set4 w8 G2 [0, 0, 0, 0] ∧ G < G2 ∧ w1.heap.size ≤ G2) := Lib.hid ⟨Has.below HS7.out hb8 (by rw [hG2]; exact hGl), hs8, hGl, by rw [← hG2]; exact HB7.out.size⟩
      clear HN4 HB7 HS7 hs8 hb8 hb8' hw8 hz8 hG2 hGl
      go_wp2_with fail
      refine HN8.out.mono ?_
      rintro e w9 ⟨v, rfl, ho, hb9⟩
      have HB9 : Hid (Below w1.heap.size w1 w9) := Lib.hid (HB8.out.trans (hb9.mono HB8.out.size))
      have HS9 : Hid (SetAt w9 G s0 ∧ Set4 w9 G2 [0, 0, 0, 0] ∧ G < G2 ∧ w1.heap.size ≤ G2) := Lib.hid ⟨Has.below HS8.out.1 hb9 (Has.lt HS8.out.1), HS8.out.2.1.keeps (Keeps.below' hb9 []) (by simp), HS8.out.2.2⟩
      have HSp := Lib.hid (spread_writes w.heap.size G s0 m hm64 v (nextW ws n) (nextW ws) w9 (Has.lt HS9.out.1) HS9.out.1 HSe.out.2 (by
        rcases row_of_own ho with ⟨g5, g6⟩ | ⟨g, cap, g6, g7, g8⟩
        · exact .inl ⟨g6, g5⟩
        · exact .inr ⟨g, cap, g6, g8, .inr (Nat.zero_le _)⟩) (by have := HNX.out.l n; omega) (by have := HNX.out.r n; rw [← HLm.out] at this; exact this) (fun k _ => ⟨by have := HNX.out.l k; omega, by have := HNX.out.r k; rw [← HLm.out] at this; exact this⟩) (fun k W hk hW hsz => by
        have h1 : Below w1.heap.size w1 W := HB9.out.trans (hW.toBelow HB9.out.size HGw.out)
        obtain ⟨-, -, h2, -, h3⟩ := HX.out _ h1
        refine (HW1n.out w.heap.size k W h2 (by rw [← HLm.out]; exact hk) h3).mono ?_
        rintro e W' ⟨v, rfl, ho, hbW⟩
        refine ⟨v, rfl, ?_, hbW⟩
        rcases row_of_own ho with ⟨g5, g6⟩ | ⟨g, cap, g6, g7, g8⟩
        · exact .inl ⟨g6, g5⟩
        · exact .inr ⟨g, cap, g6, g8, .inr g7⟩))
      obtain ⟨va0, vk0, vc0, rfl⟩ := own_slice_of ho
      clear HN8 HB8 HS8 ho hb9 d0 d1 d2 d3 d4 d5 ld
      go_wp2_with fail
      refine HSp.out.mono ?_
      rintro e w10 ⟨v, st, rfl, ho, hsp, hli, hb10⟩
      have hmem := spd_end (fun z hz => (HNX.out.r n z hz).imp id (fun h => ⟨h.1, by omega⟩)) (fun k _ z hz => (HNX.out.r k z hz).imp id (fun h => ⟨h.1, by omega⟩)) hsp
      obtain ⟨st1, R⟩ := st
      simp only at ho hsp hli hmem
      have HR : Hid ((∀ z ∈ R, 0 ≤ z ∧ z < ws.length) ∧ (∀ x : Nat, (x : Int) ∈ R ↔ Come ((nextW ws n).map toO) (nxO (nextW ws)) (fun y => s0.testBit y) x)) := Lib.hid ⟨fun z hz => ⟨(hsp.s.pos z hz).1, by rw [← HLm.out]; exact hli z hz⟩, hmem⟩
      have hl64 : R.length ≤ 64 := hsp.s.len
      obtain ⟨va, vk, vc, rfl⟩ := own_slice_of ho
      obtain ⟨rfl, hRo⟩ := rowV_of ho
      have hS10 : Set4 w10 G2 [0, 0, 0, 0] := ⟨HS9.out.2.1.len, HS9.out.2.1.lt, hb10.has HS9.out.2.1.h HS9.out.2.1.h.lt (by have := HS9.out.2.2.1; omega)⟩
      have HG2 := Lib.hid HS9.out.2.2.2
      have HS10 : Hid (RgS ws w1 w10 w10 G2 R 0) := Lib.hid ⟨⟨_, hS10, fun r hr => by rw [bits_start r hr]; simp⟩, Keeps.refl _ _, HB9.out.trans (hb10.toBelow HB9.out.size HGw.out)⟩
      have HRo : Hid (∀ W, Keeps [G2] w10 W → R ≠ [] → ∃ g, va = some ⟨g, 0, none⟩ ∧ RowAt W g R) := Lib.hid fun W hW h => by
        obtain ⟨g, g1, g2⟩ := hRo h
        obtain ⟨fcs, hf, hfi⟩ := g2
        exact ⟨g, g1, fcs, hf.keeps hW (by simpa using hf.ne hS10.h (by decide)), hfi⟩
      clear HSp HB9 HS9 ho hsp hli hmem hb10 hRo hS10
      obtain ⟨L, hL⟩ : ∃ L, R.length = L := ⟨_, rfl⟩
      have HL := Lib.hid hL
      rw [hL] at hl64 ⊢
      clear hL
      go_wp2
      go_loopg [69] L (fun k i wr => ∃ j : Nat, i = .int .i64 (j : Int) ∧ j ≤ L ∧ k + j = L ∧ Hid (RgS ws w1 w10 wr G2 R j))
      case atStart => exact ⟨0, rfl, by omega, by omega, HS10⟩
      case round =>
        obtain ⟨j, rfl, hj, hk, HS⟩ := hrel
        clear HS10
        by_cases hlt : j < L
        · have hi1 : (j : Int) < (L : Int) := by omega
          have hi0 : (0 : Int) ≤ (j : Int) := by omega
          have hjR : j < R.length := by rw [HL.out]; exact hlt
          obtain ⟨gv, hvg, hrow⟩ := HRo.out wr HS.out.k (by intro e; rw [e] at hjR; simp at hjR)
          subst hvg
          have hcj := hrow.cell hjR
          have hgl := hrow.lt
          have hz := HR.out.1 _ (List.getElem_mem hjR)
          obtain ⟨z, hzj⟩ : ∃ z, R[j] = z := ⟨_, rfl⟩
          rw [hzj] at hcj hz
          obtain ⟨y, rfl⟩ := Int.eq_ofNat_of_zero_le hz.1
          have hym : y < m := by rw [HLm.out]; omega
          have hyi : (y : Int) < (m : Int) := by omega
          have hy0 : (0 : Int) ≤ (y : Int) := by omega
          have HJ := Lib.hid hzj
          have HYw : Hid (y < ws.length) := Lib.hid (by rw [← HLm.out]; exact hym)
          obtain ⟨⟨x0, x1, x2, x3, x4, x5⟩, lx, hwb, -⟩ := HX.out _ HS.out.b
          obtain ⟨cw, lg⟩ := HG.out y _ HYw.out hwb
          obtain ⟨yb, yc, hD⟩ := HDe.out y wr HYw.out (HTB.out _ hwb).1
          have HD := Lib.hid hD
          have HAr := Lib.hid (a_range ((ws.getD y 0 : Nat) : Int))
          have HOk : Hid (okW ((ws.getD y 0 : Nat) : Int) = true → opW ((ws.getD y 0 : Nat) : Int) = opW ((ws.getD y 0 : Nat) : Int)) := Lib.hid fun _ => rfl
          obtain ⟨av, hav⟩ : ∃ av : Nat, aW ((ws.getD y 0 : Nat) : Int) = (av : Int) := ⟨(aW ((ws.getD y 0 : Nat) : Int)).toNat, by have := HAr.out; omega⟩
          have hav256 : av < 256 := by have := HAr.out; omega
          have HSk : Hid ((okW ((ws.getD y 0 : Nat) : Int) && wrB (opW ((ws.getD y 0 : Nat) : Int))) = false → ∀ W, Keeps [] wr W → RgS ws w1 w10 W G2 R (j + 1)) := Lib.hid fun hw W hW => by
            obtain ⟨xs, h1, h2⟩ := HS.out.s
            exact ⟨⟨xs, h1.keeps hW (by simp), bits_skip hjR HJ.out h2 hw⟩, HS.out.k.trans hW (by simp), HS.out.b.trans (hW.toBelow _ HS.out.b.size (by simp))⟩
          have HPu : Hid ((okW ((ws.getD y 0 : Nat) : Int) && wrB (opW ((ws.getD y 0 : Nat) : Int))) = true → ∃ xs, Set4 wr G2 xs ∧ ∀ W W', Keeps [] wr W → Keeps [G2] W W' → Set4 W' G2 (addX xs av) → RgS ws w1 w10 W' G2 R (j + 1)) := Lib.hid fun hw => by
            obtain ⟨xs, h1, h2⟩ := HS.out.s
            refine ⟨xs, h1, fun W W' hW hW' h3 => ⟨⟨_, h3, bits_step h1.len hjR HJ.out h2 hav hw⟩, (HS.out.k.trans hW (by simp)).trans hW' (by simp), (HS.out.b.trans (hW.toBelow _ HS.out.b.size (by simp))).trans (hW'.toBelow _ (Nat.le_trans HS.out.b.size hW.size) (fun x hx => by simp at hx; rw [hx]; exact HG2.out))⟩⟩
          have HEe : Hid (eW ((ws.getD y 0 : Nat) : Int) = if okW ((ws.getD y 0 : Nat) : Int) then 0 else 1) := Lib.hid rfl
          rw [hav] at HD
          have hws := HS.out.b.size
          clear hD HAr HOk hav hrow hzj hz hwb
          generalize dW ((ws.getD y 0 : Nat) : Int) = yd at HD
          generalize opW ((ws.getD y 0 : Nat) : Int) = yo at HD HSk HPu
          generalize eW ((ws.getD y 0 : Nat) : Int) = ye at HD HEe
          generalize okW ((ws.getD y 0 : Nat) : Int) = yk at HSk HPu HEe
          generalize ((ws.getD y 0 : Nat) : Int) = yx at HD cw
          clear HS
          go_wp2_with fail
          refine HD.out.mono ?_
          rintro e w12 ⟨rfl, hb12⟩
          have hI := Has.new w12 39 [.int .i64 yo, .int .i64 (av : Int), .int .i64 yb, .int .i64 yc, .int .i64 yd]
          have hk12 : Keeps [] wr (w12.alloc (.cells #[.int .i64 yo, .int .i64 (av : Int), .int .i64 yb, .int .i64 yc, .int .i64 yd] 39)) := (Keeps.below' hb12 []).trans (Keeps.alloc [] w12 _) (by simp)
          have HK12 := Lib.hid hk12
          clear HD hb12 hI hk12 cw lg x0 x1 x2 x3 x4 x5 lx hcj hgl
          cases yk
          · have he : ye = 1 := HEe.out
            subst he
            have HS2 := Lib.hid (HSk.out (by simp) _ HK12.out)
            clear HSk HPu HEe HK12
            go_wp2
            go_roundg (gk - 1)
            case measure => omega
            case rel => exact ⟨j + 1, by go_num, by omega, by omega, HS2⟩
          · have he : ye = 0 := HEe.out
            subst he
            have HWr := Lib.hid (fun W => writes_any yo W)
            obtain ⟨yw, hyw⟩ : ∃ yw, wrB yo = yw := ⟨_, rfl⟩
            rw [hyw] at HWr HSk HPu
            clear hyw HEe
            go_wp2_with fail
            refine (HWr.out _).mono ?_
            rintro e w13 ⟨rfl, hw13⟩
            subst hw13
            cases yw
            · have HS2 := Lib.hid (HSk.out (by simp) _ HK12.out)
              clear HSk HPu HK12 HWr
              go_wp2
              go_roundg (gk - 1)
              case measure => omega
              case rel => exact ⟨j + 1, by go_num, by omega, by omega, HS2⟩
            · obtain ⟨xs, h1, h2⟩ := HPu.out (by simp)
              have HA4 := Lib.hid (add_four G2 4 av xs hav256 _ (h1.keeps HK12.out (by simp)))
              have HP2 := Lib.hid (fun W' => h2 _ W' HK12.out)
              clear HSk HPu HK12 HWr h1 h2
              go_wp2_with fail
              refine HA4.out.mono ?_
              rintro e w14 ⟨rfl, hs14, k14⟩
              have HS2 := Lib.hid (HP2.out _ k14 hs14)
              clear HA4 HP2 hs14 k14
              go_wp2
              go_roundg (gk - 1)
              case measure => omega
              case rel => exact ⟨j + 1, by go_num, by omega, by omega, HS2⟩
        · have hjm : j = L := by omega
          subst hjm
          obtain ⟨xs, hxs, hbx⟩ := HS.out.s
          have HW : Hid (WrP ws n (bitX xs)) := Lib.hid (regs_of HZ.out HSe.out.1 HR.out.2 HR.out.1 (by
            rw [← HL.out, List.take_length] at hbx
            exact hbx))
          obtain ⟨-, -, hwb, -⟩ := HX.out _ HS.out.b
          have HBr := Lib.hid hwb
          have hT9 := HTB.out _ hwb
          have hal : Keeps [] wr (wr.alloc (.cells #[.slice (some ⟨G2, 0, none⟩) 4 4] 54)) := Keeps.alloc [] wr _
          have hbl := (Keeps.alloc [] wr (.cells #[.slice (some ⟨G2, 0, none⟩) 4 4] 54)).toBelow wr.heap.size (Nat.le_refl _) (by simp)
          have HC := Lib.hid (collect_any wr.heap.size G2 4 xs _ (hxs.keeps hal (by simp)) (Has.new wr 54 [.slice (some ⟨G2, 0, none⟩) 4 4]) (fun i hi => (hbl.cell (p := ⟨_, i, none⟩) hT9.2.2).trans (hT9.2.1 i hi)) (Nat.lt_of_lt_of_le hT9.2.2 hbl.size))
          have HBl := Lib.hid (HBr.out.trans (hbl.mono HBr.out.size))
          have HPl := Lib.hid (fun W => places_any (some ⟨G2, 0, none⟩) 4 4 W)
          clear HS hxs hbx hwb hT9 hal hbl
          go_wp2_with fail
          refine (HPl.out _).mono ?_
          rintro e w15 ⟨rfl, hw15⟩
          subst hw15
          clear HPl
          go_wp2_with fail
          refine HC.out.mono ?_
          rintro e w16 ⟨v, rfl, ho, hb16⟩
          have HE : Hid (WrIs w (WrP ws n) (.returned v) w16) := Lib.hid ⟨v, _, rfl, own_base ho HBl.out.size, HW.out, HBl.out.trans (hb16.mono HBl.out.size)⟩
          obtain ⟨ra, rk, rc, rfl⟩ := own_slice_of ho
          clear HC ho hb16
          go_wp2
          go_ret
          exact HE.out
end FlowDz
end Go.Proofs.YtajhkogknpmnbaaDoor
