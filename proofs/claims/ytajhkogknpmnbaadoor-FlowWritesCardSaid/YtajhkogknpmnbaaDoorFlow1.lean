/- Where a word leads: the document's. -/
import Derived.Test.YtajhkogknpmnbaaDoorInstrDec2
import Derived.Test.YtajhkogknpmnbaaDoorObj
import Derived.Deep.RegionHeld3
namespace Go.Proofs.YtajhkogknpmnbaaDoor
open Go.RowKit ObjM
namespace FlowD
open InstrM InstrD

/-- A function's cells. -/
structure PrV where
  a0 : Option Addr
  n0 : Nat
  c0 : Nat
  rg : Int
  wa : Option Addr
  wn : Nat
  wc : Nat
  a3 : Option Addr
  n3 : Nat
  c3 : Nat
  a4 : Option Addr
  n4 : Nat
  c4 : Nat
  a5 : Option Addr
  n5 : Nat
  c5 : Nat
def PrV.cells (p : PrV) : List Value := [.slice p.a0 p.n0 p.c0, .int .i64 p.rg, .slice p.wa p.wn p.wc, .slice p.a3 p.n3 p.c3, .slice p.a4 p.n4 p.c4, .slice p.a5 p.n5 p.c5]
def PrV.agg (p : PrV) : Value := .agg #[.slice p.a0 p.n0 p.c0, .int .i64 p.rg, .slice p.wa p.wn p.wc, .slice p.a3 p.n3 p.c3, .slice p.a4 p.n4 p.c4, .slice p.a5 p.n5 p.c5]
/-- A function's words in memory. -/
structure WordsAt (W : World) (p : PrV) (ws : List Nat) : Prop where
  len : p.wn = ws.length
  small : ws.length ≤ 1000000
  lim : ∀ x ∈ ws, x ≤ 4294967295
  at_ : ∀ (i : Nat) (x : Nat), ws[i]? = some x → ∃ g o, p.wa = some ⟨g, o, none⟩ ∧ g < W.heap.size ∧ W.cell? ⟨g, o + i, none⟩ = some (.int .u32 (x : Int))
theorem WordsAt.below {W W' : World} {p : PrV} {ws : List Nat} (h : WordsAt W p ws) (hb : Below W.heap.size W W') : WordsAt W' p ws :=
  ⟨h.len, h.small, h.lim, fun i x hi => by
    obtain ⟨g, o, e, hg, hc⟩ := h.at_ i x hi
    exact ⟨g, o, e, Nat.lt_of_lt_of_le hg hb.size, (hb.cell (p := ⟨g, _, none⟩) hg).trans hc⟩⟩
theorem below_in {w W w' : World} (h : Below w.heap.size w W) (k : Below W.heap.size W w') : Below w.heap.size w w' := h.trans (k.mono h.size)
theorem below_n {n : Nat} {w W w' : World} (h : Below n w W) (k : Below W.heap.size W w') (hn : n ≤ w.heap.size) : Below n w w' := h.trans (k.mono (Nat.le_trans hn h.size))
def opW (w : Int) : Int := if wOf w (rF w) = (w, 0) then w % 256 else 0
def dW (w : Int) : Int := if wOf w (rF w) = (w, 0) then (rF w).d else 0
theorem answer_eq {w : Int} (h0 : 0 ≤ w) (h1 : w ≤ 4294967295) : answer w (kF w) (wOf w (kF w)) = answer w (rF w) (wOf w (rF w)) := by
  obtain ⟨d1, d2⟩ := dec_same h0 h1
  by_cases h : wOf w (kF w) = (w, 0)
  · rw [d1 h]
  · by_cases h2 : wOf w (rF w) = (w, 0)
    · have := d2 h2
      rw [← this] at h
      exact absurd h2 h
    · unfold answer
      rw [if_neg h, if_neg h2]
theorem answer_is (w : Int) : ∃ a b c e, answer w (rF w) (wOf w (rF w)) = .tuple #[.agg #[.int .i64 (opW w), .int .i64 a, .int .i64 b, .int .i64 c, .int .i64 (dW w)], .int .i64 e] ∧ (e = 0 ∨ e = 1 ∧ opW w = 0) := by
  unfold answer opW dW
  by_cases h : wOf w (rF w) = (w, 0)
  · rw [if_pos h, if_pos h, if_pos h]
    exact ⟨_, _, _, _, rfl, .inl rfl⟩
  · rw [if_neg h, if_neg h, if_neg h]
    exact ⟨_, _, _, _, rfl, .inr ⟨rfl, rfl⟩⟩
def plV (n : Nat) (x : Int) : Int := if x < 0 ∨ (n : Int) ≤ x then -1 else x
def bothV (n : Nat) (x y : Int) : List Int := if plV n x = plV n y then [plV n x] else [min (plV n x) (plV n y), max (plV n x) (plV n y)]
def leadV (n : Nat) (op d pos : Int) : List Int := if op = 34 then [plV n d] else if op = 42 then [-1] else if op = 35 ∨ op = 36 then bothV n d (pos + 2) else [plV n (pos + 1)]
/-- Where a word leads. -/
def nextV (ws : List Nat) (pos : Int) : List Int := if pos < 0 ∨ (ws.length : Int) ≤ pos then [] else leadV ws.length (opW (ws.getD pos.toNat 0 : Nat)) (dW (ws.getD pos.toNat 0 : Nat)) pos
def IntB (w : World) (n : Int) (e : Ending) (w' : World) : Prop := e = .returned (.int .i64 n) ∧ Below w.heap.size w w'
/-- A row of numbers that was made. -/
def IntsIs (w : World) (l : List Int) (e : Ending) (w' : World) : Prop := ∃ v, e = .returned v ∧ w'.ownsRow w.heap.size 3 1 v l.length (l.map (Value.int .i64)) ∧ Below w.heap.size w w'
theorem pr_box (w : World) (p : PrV) : Has (w.alloc (.cells #[.slice p.a0 p.n0 p.c0, .int .i64 p.rg, .slice p.wa p.wn p.wc, .slice p.a3 p.n3 p.c3, .slice p.a4 p.n4 p.c4, .slice p.a5 p.n5 p.c5] 28)) w.heap.size 28 p.cells ∧ Below w.heap.size w (w.alloc (.cells #[.slice p.a0 p.n0 p.c0, .int .i64 p.rg, .slice p.wa p.wn p.wc, .slice p.a3 p.n3 p.c3, .slice p.a4 p.n4 p.c4, .slice p.a5 p.n5 p.c5] 28)) :=
  ⟨Has.new w 28 p.cells, (Below.refl _ w).alloc (Nat.le_refl _) _⟩
set_option maxRecDepth 100000 in
set_option maxHeartbeats 4000000 in
theorem place_any (p : PrV) (x : Int) (w : World) : Calls Tryd.prog 24 #[p.agg, .int .i64 x] w (IntB w (plV p.wn x)) := by
  obtain ⟨hx, hb⟩ := pr_box w p
  have HB := Lib.hid hb
  have HR : Hid (plV p.wn x = if x < 0 ∨ (p.wn : Int) ≤ x then -1 else x) := Lib.hid rfl
  generalize plV p.wn x = R at HR ⊢
  have x2 := hx.cell 2
  have lx := hx.lt
  simp only [PrV.cells, List.getElem?_cons_zero, List.getElem?_cons_succ] at x2
  unfold PrV.agg
  clear hx hb
  by_cases h0 : x < 0
  · have HF : Hid (R = -1) := Lib.hid (by rw [HR.out, if_pos (.inl h0)])
    obtain rfl := HF.out
    clear HR
    go_enter Tryd.func24, Tryd.ntmps24
    go_wp2
    go_ret
    exact ⟨rfl, HB.out⟩
  · by_cases h1 : (p.wn : Int) ≤ x
    · have HF : Hid (R = -1) := Lib.hid (by rw [HR.out, if_pos (.inr h1)])
      obtain rfl := HF.out
      clear HR
      go_enter Tryd.func24, Tryd.ntmps24
      go_wp2
      go_ret
      exact ⟨rfl, HB.out⟩
    · have HF : Hid (R = x) := Lib.hid (by rw [HR.out, if_neg (by omega)])
      obtain rfl := HF.out
      clear HR
      go_enter Tryd.func24, Tryd.ntmps24
      go_wp2
      go_ret
      exact ⟨rfl, HB.out⟩
theorem one_int (w : World) (x : Int) : (w.alloc (.cells #[.int .i64 x] 3)).ownsRow w.heap.size 3 1 (.slice (some ⟨w.heap.size, 0, none⟩) 1 1) 1 [.int .i64 x] := own_of (Nat.le_refl _) (Has.new w 3 [.int .i64 x]) (Nat.le_refl _) (by unfold maxLen; omega) rfl rfl
theorem two_int (w : World) (x y : Int) : (w.alloc (.cells #[.int .i64 x, .int .i64 y] 3)).ownsRow w.heap.size 3 1 (.slice (some ⟨w.heap.size, 0, none⟩) 2 2) 2 [.int .i64 x, .int .i64 y] := own_of (Nat.le_refl _) (Has.new w 3 [.int .i64 x, .int .i64 y]) (Nat.le_refl _) (by unfold maxLen; omega) rfl rfl
theorem ints_one {w W : World} (hb : Below w.heap.size w W) (x : Int) : IntsIs w [x] (.returned (.slice (some ⟨W.heap.size, 0, none⟩) 1 1)) (W.alloc (.cells #[.int .i64 x] 3)) := ⟨_, rfl, own_base (one_int W x) hb.size, hb.alloc hb.size _⟩
theorem ints_two {w W : World} (hb : Below w.heap.size w W) (x y : Int) : IntsIs w [x, y] (.returned (.slice (some ⟨W.heap.size, 0, none⟩) 2 2)) (W.alloc (.cells #[.int .i64 x, .int .i64 y] 3)) := ⟨_, rfl, own_base (two_int W x y) hb.size, hb.alloc hb.size _⟩
set_option maxRecDepth 100000 in
set_option maxHeartbeats 16000000 in
theorem refNext_any (p : PrV) (ws : List Nat) (pos : Int) (w : World) (hw : WordsAt w p ws) (hp : -9223372036854775808 ≤ pos ∧ pos ≤ 9223372036854775807) : Calls Tryd.prog 13 #[p.agg, .int .i64 pos] w (IntsIs w (nextV ws pos)) := by
  obtain ⟨hx, hb⟩ := pr_box w p
  have HB := Lib.hid hb
  have HPl := Lib.hid (fun x W => place_any p x W)
  unfold PrV.agg at HPl
  have HX : Hid (∀ W, Below (w.heap.size + 1) (w.alloc (.cells #[.slice p.a0 p.n0 p.c0, .int .i64 p.rg, .slice p.wa p.wn p.wc, .slice p.a3 p.n3 p.c3, .slice p.a4 p.n4 p.c4, .slice p.a5 p.n5 p.c5] 28)) W → (W.cell? ⟨w.heap.size, 0, none⟩ = some (.slice p.a0 p.n0 p.c0) ∧ W.cell? ⟨w.heap.size, 1, none⟩ = some (.int .i64 p.rg) ∧ W.cell? ⟨w.heap.size, 2, none⟩ = some (.slice p.wa p.wn p.wc) ∧ W.cell? ⟨w.heap.size, 3, none⟩ = some (.slice p.a3 p.n3 p.c3) ∧ W.cell? ⟨w.heap.size, 4, none⟩ = some (.slice p.a4 p.n4 p.c4) ∧ W.cell? ⟨w.heap.size, 5, none⟩ = some (.slice p.a5 p.n5 p.c5)) ∧ w.heap.size < W.heap.size ∧ Below w.heap.size w W ∧ w.heap.size + 1 ≤ W.heap.size) := Lib.hid (fun W hW => by
    have g := hx.below hW (by omega)
    exact ⟨⟨g.cell 0, g.cell 1, g.cell 2, g.cell 3, g.cell 4, g.cell 5⟩, g.lt, hb.trans (hW.mono (by omega)), g.lt⟩)
  have HB0 := Lib.hid (Below.refl (w.heap.size + 1) (w.alloc (.cells #[.slice p.a0 p.n0 p.c0, .int .i64 p.rg, .slice p.wa p.wn p.wc, .slice p.a3 p.n3 p.c3, .slice p.a4 p.n4 p.c4, .slice p.a5 p.n5 p.c5] 28)))
  have HL := Lib.hid hw.len
  have HSm := Lib.hid hw.small
  have HAt := Lib.hid (fun i x hi => hw.at_ i x hi)
  have HLi := Lib.hid hw.lim
  have HR : Hid (nextV ws pos = if pos < 0 ∨ (ws.length : Int) ≤ pos then [] else leadV ws.length (opW (ws.getD pos.toNat 0 : Nat)) (dW (ws.getD pos.toNat 0 : Nat)) pos) := Lib.hid rfl
  obtain ⟨R, hR⟩ : ∃ R, nextV ws pos = R := ⟨_, rfl⟩
  rw [hR] at HR ⊢
  obtain ⟨x0, x1, x2, x3, x4, x5⟩ := (HX.out _ HB0.out).1
  have lx := (HX.out _ HB0.out).2.1
  unfold PrV.agg
  clear hx hb hw hR
  by_cases h0 : pos < 0
  · have HF : Hid (R = []) := Lib.hid (by rw [HR.out, if_pos (.inl h0)])
    obtain rfl := HF.out
    clear HR
    go_enter Tryd.func13, Tryd.ntmps13
    go_wp2
    go_ret
    exact ⟨_, rfl, World.ownsRow_nil _ _ _ _, HB.out⟩
  by_cases h1 : (p.wn : Int) ≤ pos
  · have HF : Hid (R = []) := Lib.hid (by rw [HR.out, if_pos (.inr (by rw [← HL.out]; exact h1))])
    obtain rfl := HF.out
    clear HR
    go_enter Tryd.func13, Tryd.ntmps13
    go_wp2
    go_ret
    exact ⟨_, rfl, World.ownsRow_nil _ _ _ _, HB.out⟩
  obtain ⟨k, rfl⟩ := Int.eq_ofNat_of_zero_le (show 0 ≤ pos by omega)
  have hk : k < ws.length := by have := HL.out; omega
  have hget := List.getElem?_eq_getElem hk
  obtain ⟨g, o, hwa, hg, hc⟩ := HAt.out k _ hget
  have HD : Hid (R = leadV ws.length (opW (ws[k] : Nat)) (dW (ws[k] : Nat)) (k : Int)) := Lib.hid (by
    rw [HR.out, if_neg (by have := HL.out; omega)]
    simp [List.getD_eq_getElem?_getD, hget])
  have hlim := HLi.out _ (List.getElem_mem hk)
  have HDe := Lib.hid (fun W => refDecode_any ((ws[k] : Nat) : Int) (by omega) (by omega) W)
  obtain ⟨ia, ib, ic, ie, hans, hie⟩ := answer_is ((ws[k] : Nat) : Int)
  rw [hans] at HDe
  have hcw := (HB.out.cell (p := ⟨g, o + k, none⟩) hg).trans hc
  have hkn : (k : Int) < (p.wn : Int) := by omega
  have hkb : (k : Int) ≤ 1000000 := by have := HSm.out; omega
  have HLn := Lib.hid HL.out
  rw [← HL.out] at HD
  generalize opW ((ws[k] : Nat) : Int) = op at HD HDe hie
  generalize dW ((ws[k] : Nat) : Int) = d at HD HDe
  generalize ws[k] = x at hcw HDe
  rw [hwa] at x0 x1 x2 x3 x4 x5 lx HX HB0 HB hcw HPl
  clear HR HL hget hg hc hlim hans HAt HLi HSm hk
  rw [hwa]
  go_enter Tryd.func13, Tryd.ntmps13
  go_wp2_with fail
  generalize (w.alloc (.cells #[.slice p.a0 p.n0 p.c0, .int .i64 p.rg, .slice (some ⟨g, o, none⟩) p.wn p.wc, .slice p.a3 p.n3 p.c3, .slice p.a4 p.n4 p.c4, .slice p.a5 p.n5 p.c5] 28)) = W1 at x0 x1 x2 x3 x4 x5 lx HX HB0 HB hcw ⊢
  refine (HDe.out _).mono ?_
  rintro e w2 ⟨rfl, hb2⟩
  have HB2 := Lib.hid (HB0.out.trans (hb2.mono (HX.out _ HB0.out).2.2.2))
  have hin := Has.new w2 39 [.int .i64 op, .int .i64 ia, .int .i64 ib, .int .i64 ic, .int .i64 d]
  have hb3 : Below w2.heap.size w2 (w2.alloc (.cells #[.int .i64 op, .int .i64 ia, .int .i64 ib, .int .i64 ic, .int .i64 d] 39)) := (Below.refl _ w2).alloc (Nat.le_refl _) _
  have hs3 : (w2.alloc (.cells #[.int .i64 op, .int .i64 ia, .int .i64 ib, .int .i64 ic, .int .i64 d] 39)).heap.size = w2.heap.size + 1 := by simp
  clear hb2 x0 x1 x2 x3 x4 x5 lx hcw
  have HY : Hid (∀ W, Below (w2.heap.size + 1) (w2.alloc (.cells #[.int .i64 op, .int .i64 ia, .int .i64 ib, .int .i64 ic, .int .i64 d] 39)) W → ((W.cell? ⟨w.heap.size, 0, none⟩ = some (.slice p.a0 p.n0 p.c0) ∧ W.cell? ⟨w.heap.size, 1, none⟩ = some (.int .i64 p.rg) ∧ W.cell? ⟨w.heap.size, 2, none⟩ = some (.slice (some ⟨g, o, none⟩) p.wn p.wc) ∧ W.cell? ⟨w.heap.size, 3, none⟩ = some (.slice p.a3 p.n3 p.c3) ∧ W.cell? ⟨w.heap.size, 4, none⟩ = some (.slice p.a4 p.n4 p.c4) ∧ W.cell? ⟨w.heap.size, 5, none⟩ = some (.slice p.a5 p.n5 p.c5)) ∧ W.cell? ⟨w2.heap.size, 0, none⟩ = some (.int .i64 op) ∧ W.cell? ⟨w2.heap.size, 4, none⟩ = some (.int .i64 d)) ∧ (w.heap.size < W.heap.size ∧ w2.heap.size < W.heap.size) ∧ Below w.heap.size w W) := Lib.hid (fun W hW => by
    have h2 := hb3.trans (hW.mono (by omega))
    have h3 := HB2.out.trans (h2.mono (HX.out _ HB2.out).2.2.2)
    have g := hin.below hW (by omega)
    exact ⟨⟨(HX.out _ h3).1, g.cell 0, g.cell 4⟩, ⟨(HX.out _ h3).2.1, g.lt⟩, (HX.out _ h3).2.2.1⟩)
  have HB3 := Lib.hid (Below.refl (w2.heap.size + 1) (w2.alloc (.cells #[.int .i64 op, .int .i64 ia, .int .i64 ib, .int .i64 ic, .int .i64 d] 39)))
  have HS3 := Lib.hid hs3
  clear hin hb3 hs3 HX HB0 HB HB2 HDe HLn
  obtain ⟨⟨⟨x0, x1, x2, x3, x4, x5⟩, i0, i4⟩, ⟨lx, li⟩, hv⟩ := HY.out _ HB3.out
  have HV3 := Lib.hid hv
  clear hv
  by_cases o34 : op = 34
  · have HF : Hid (R = [plV p.wn d]) := Lib.hid (by rw [HD.out, leadV, if_pos o34])
    obtain rfl := HF.out
    subst o34
    clear HD
    go_wp2_with fail
    refine (HPl.out _ _).mono ?_
    rintro e w4 ⟨rfl, hb4⟩
    have HE := Lib.hid (ints_one (below_in HV3.out hb4) (plV p.wn d))
    clear hb4
    go_wp2
    go_ret
    exact HE.out
  have b34 : (op == 34) = false := by simpa using o34
  by_cases o42 : op = 42
  · have HF : Hid (R = [-1]) := Lib.hid (by rw [HD.out, leadV, if_neg o34, if_pos o42])
    obtain rfl := HF.out
    subst o42
    clear HD
    have he := ints_one HV3.out (-1)
    rw [HS3.out] at he
    have HE := Lib.hid he
    clear he
    go_wp2
    go_ret
    exact HE.out
  have b42 : (op == 42) = false := by simpa using o42
  by_cases ob : op = 35 ∨ op = 36
  · have HF : Hid (R = bothV p.wn d ((k : Int) + 2)) := Lib.hid (by rw [HD.out, leadV, if_neg o34, if_neg o42, if_pos ob])
    have hbr : (op == 35) = true ∨ ((op == 35) = false ∧ (op == 36) = true) := by
      rcases ob with rfl | rfl
      · exact .inl rfl
      · exact .inr ⟨rfl, rfl⟩
    have hw2 : IntKind.i64.wrap ((k : Int) + 2) = (k : Int) + 2 := IntWalk.i64_in _ (by omega)
    clear HD o34 o42
    rcases hbr with e35 | ⟨e35, e36⟩
    all_goals
      go_wp2
      go_region_held3 (fun W => (W.cell? ⟨w.heap.size, 0, none⟩ = some (.slice p.a0 p.n0 p.c0) ∧ W.cell? ⟨w.heap.size, 1, none⟩ = some (.int .i64 p.rg) ∧ W.cell? ⟨w.heap.size, 2, none⟩ = some (.slice (some ⟨g, o, none⟩) p.wn p.wc) ∧ W.cell? ⟨w.heap.size, 3, none⟩ = some (.slice p.a3 p.n3 p.c3) ∧ W.cell? ⟨w.heap.size, 4, none⟩ = some (.slice p.a4 p.n4 p.c4) ∧ W.cell? ⟨w.heap.size, 5, none⟩ = some (.slice p.a5 p.n5 p.c5)) ∧ W.cell? ⟨w2.heap.size, 0, none⟩ = some (.int .i64 op) ∧ W.cell? ⟨w2.heap.size, 4, none⟩ = some (.int .i64 d))
        (exact (HY.out _ (by repeat (first | exact Below.refl _ _ | assumption | refine Below.drew ?_))).1)
        (first
          | (go_at_call 24
             refine (HPl.out _ _).mono ?_
             rintro e w5 ⟨rfl, hb5⟩
             have hb6 : Below (w2.heap.size + 1) (w2.alloc (.cells #[.int .i64 op, .int .i64 ia, .int .i64 ib, .int .i64 ic, .int .i64 d] 39)) w5 := below_n (by repeat (first | exact Below.refl _ _ | assumption | refine Below.drew ?_)) hb5 (by simp)))
      have HV5 := Lib.hid (HY.out _ hb6).2.2
      have HFb : Hid (R = if plV p.wn d = plV p.wn ((k : Int) + 2) then [plV p.wn d] else [min (plV p.wn d) (plV p.wn ((k : Int) + 2)), max (plV p.wn d) (plV p.wn ((k : Int) + 2))]) := Lib.hid (by rw [HF.out]; rfl)
      clear HF hb6 hb5 x0 x1 x2 x3 x4 x5 i0 i4 lx li HY
      generalize plV p.wn d = A at HFb ⊢
      generalize plV p.wn ((k : Int) + 2) = B at HFb ⊢
      by_cases hab : A = B
      · subst hab
        have HG : Hid (R = [A]) := Lib.hid (by rw [HFb.out, if_pos rfl])
        obtain rfl := HG.out
        have HE := Lib.hid (ints_one HV5.out A)
        clear HFb
        go_wp2
        go_ret
        exact HE.out
      · have hne : (A == B) = false := by simpa using hab
        by_cases hm : A < B
        · have HG : Hid (R = [A, B]) := Lib.hid (by rw [HFb.out, if_neg hab, show min A B = A by omega, show max A B = B by omega])
          obtain rfl := HG.out
          have HE := Lib.hid (ints_two HV5.out A B)
          have hm2 : A ≤ B := by omega
          clear HFb hab
          go_wp2
          go_ret
          exact HE.out
        · have HG : Hid (R = [B, A]) := Lib.hid (by rw [HFb.out, if_neg hab, show min A B = B by omega, show max A B = A by omega])
          obtain rfl := HG.out
          have HE := Lib.hid (ints_two HV5.out B A)
          have hm2 : ¬ A ≤ B := by omega
          have hm3 : B < A := by omega
          clear HFb hab
          go_wp2
          go_ret
          exact HE.out
  have b35 : (op == 35) = false := by simp; omega
  have b36 : (op == 36) = false := by simp; omega
  have hw1 : IntKind.i64.wrap ((k : Int) + 1) = (k : Int) + 1 := IntWalk.i64_in _ (by omega)
  have HF : Hid (R = [plV p.wn ((k : Int) + 1)]) := Lib.hid (by rw [HD.out, leadV, if_neg o34, if_neg o42, if_neg ob])
  obtain rfl := HF.out
  clear HD o34 o42 ob
  go_wp2_with fail
  refine (HPl.out _ _).mono ?_
  rintro e w4 ⟨rfl, hb4⟩
  have HE := Lib.hid (ints_one (below_in HV3.out hb4) (plV p.wn ((k : Int) + 1)))
  clear hb4
  go_wp2
  go_ret
  exact HE.out
end FlowD
end Go.Proofs.YtajhkogknpmnbaaDoor
