/- Where a word leads: the document's. -/
import Derived.Test.YtmebhdffgpnplaaDoorInstrDec2
import Derived.Test.YtmebhdffgpnplaaDoorObj
import Derived.Deep.RegionHeld3
namespace Go.Proofs.YtmebhdffgpnplaaDoor
open Go.RowKit ObjM
namespace FlowD
open InstrM InstrD

/-- A function's cells. -/
structure PrV where
  a0 : Option Addr
  n0 : Nat
  c0 : Nat
  rg : Int
  wa : Option Addr
  wn : Nat
  wc : Nat
  a3 : Option Addr
  n3 : Nat
  c3 : Nat
  a4 : Option Addr
  n4 : Nat
  c4 : Nat
  a5 : Option Addr
  n5 : Nat
  c5 : Nat
def PrV.cells (p : PrV) : List Value := [.slice p.a0 p.n0 p.c0, .int .i64 p.rg, .slice p.wa p.wn p.wc, .slice p.a3 p.n3 p.c3, .slice p.a4 p.n4 p.c4, .slice p.a5 p.n5 p.c5]
def PrV.agg (p : PrV) : Value := .agg #[.slice p.a0 p.n0 p.c0, .int .i64 p.rg, .slice p.wa p.wn p.wc, .slice p.a3 p.n3 p.c3, .slice p.a4 p.n4 p.c4, .slice p.a5 p.n5 p.c5]
/-- A function's words in memory. -/
structure WordsAt (W : World) (p : PrV) (ws : List Nat) : Prop where
  len : p.wn = ws.length
  small : ws.length ≤ 1000000
  lim : ∀ x ∈ ws, x ≤ 4294967295
  at_ : ∀ (i : Nat) (x : Nat), ws[i]? = some x → ∃ g o, p.wa = some ⟨g, o, none⟩ ∧ g < W.heap.size ∧ W.cell? ⟨g, o + i, none⟩ = some (.int .u32 (x : Int))
theorem WordsAt.below {W W' : World} {p : PrV} {ws : List Nat} (h : WordsAt W p ws) (hb : Below W.heap.size W W') : WordsAt W' p ws :=
  ⟨h.len, h.small, h.lim, fun i x hi => by
    obtain ⟨g, o, e, hg, hc⟩ := h.at_ i x hi
    exact ⟨g, o, e, Nat.lt_of_lt_of_le hg hb.size, (hb.cell (p := ⟨g, _, none⟩) hg).trans hc⟩⟩
theorem below_in {w W w' : World} (h : Below w.heap.size w W) (k : Below W.heap.size W w') : Below w.heap.size w w' := h.trans (k.mono h.size)
theorem below_n {n : Nat} {w W w' : World} (h : Below n w W) (k : Below W.heap.size W w') (hn : n ≤ w.heap.size) : Below n w w' := h.trans (k.mono (Nat.le_trans hn h.size))
def opW (w : Int) : Int := if wOf w (rF w) = (w, 0) then w % 256 else 0
def dW (w : Int) : Int := if wOf w (rF w) = (w, 0) then (rF w).d else 0
theorem answer_eq {w : Int} (h0 : 0 ≤ w) (h1 : w ≤ 4294967295) : answer w (kF w) (wOf w (kF w)) = answer w (rF w) (wOf w (rF w)) := by
  obtain ⟨d1, d2⟩ := dec_same h0 h1
  by_cases h : wOf w (kF w) = (w, 0)
  · rw [d1 h]
  · by_cases h2 : wOf w (rF w) = (w, 0)
    · have := d2 h2
      rw [← this] at h
      exact absurd h2 h
    · unfold answer
      rw [if_neg h, if_neg h2]
theorem answer_is (w : Int) : ∃ a b c e, answer w (rF w) (wOf w (rF w)) = .tuple #[.agg #[.int .i64 (opW w), .int .i64 a, .int .i64 b, .int .i64 c, .int .i64 (dW w)], .int .i64 e] ∧ (e = 0 ∨ e = 1 ∧ opW w = 0) := by
  unfold answer opW dW
  by_cases h : wOf w (rF w) = (w, 0)
  · rw [if_pos h, if_pos h, if_pos h]
    exact ⟨_, _, _, _, rfl, .inl rfl⟩
  · rw [if_neg h, if_neg h, if_neg h]
    exact ⟨_, _, _, _, rfl, .inr ⟨rfl, rfl⟩⟩
def plV (n : Nat) (x : Int) : Int := if x < 0 ∨ (n : Int) ≤ x then -1 else x
def bothV (n : Nat) (x y : Int) : List Int := if plV n x = plV n y then [plV n x] else [min (plV n x) (plV n y), max (plV n x) (plV n y)]
def leadV (n : Nat) (op d pos : Int) : List Int := if op = 34 then [plV n d] else if op = 42 then [-1] else if op = 35 ∨ op = 36 then bothV n d (pos + 2) else [plV n (pos + 1)]
/-- Where a word leads. -/
def nextV (ws : List Nat) (pos : Int) : List Int := if pos < 0 ∨ (ws.length : Int) ≤ pos then [] else leadV ws.length (opW (ws.getD pos.toNat 0 : Nat)) (dW (ws.getD pos.toNat 0 : Nat)) pos
def IntB (w : World) (n : Int) (e : Ending) (w' : World) : Prop := e = .returned (.int .i64 n) ∧ Below w.heap.size w w'
/-- A row of numbers that was made. -/
def IntsIs (w : World) (l : List Int) (e : Ending) (w' : World) : Prop := ∃ v, e = .returned v ∧ w'.ownsRow w.heap.size 3 1 v l.length (l.map (Value.int .i64)) ∧ Below w.heap.size w w'
theorem pr_box (w : World) (p : PrV) : Has (w.alloc (.cells #[.slice p.a0 p.n0 p.c0, .int .i64 p.rg, .slice p.wa p.wn p.wc, .slice p.a3 p.n3 p.c3, .slice p.a4 p.n4 p.c4, .slice p.a5 p.n5 p.c5] 38)) w.heap.size 38 p.cells ∧ Below w.heap.size w (w.alloc (.cells #[.slice p.a0 p.n0 p.c0, .int .i64 p.rg, .slice p.wa p.wn p.wc, .slice p.a3 p.n3 p.c3, .slice p.a4 p.n4 p.c4, .slice p.a5 p.n5 p.c5] 38)) :=
  ⟨Has.new w 38 p.cells, (Below.refl _ w).alloc (Nat.le_refl _) _⟩
theorem one_int (w : World) (x : Int) : (w.alloc (.cells #[.int .i64 x] 3)).ownsRow w.heap.size 3 1 (.slice (some ⟨w.heap.size, 0, none⟩) 1 1) 1 [.int .i64 x] := own_of (Nat.le_refl _) (Has.new w 3 [.int .i64 x]) (Nat.le_refl _) (by unfold maxLen; omega) rfl rfl
theorem two_int (w : World) (x y : Int) : (w.alloc (.cells #[.int .i64 x, .int .i64 y] 3)).ownsRow w.heap.size 3 1 (.slice (some ⟨w.heap.size, 0, none⟩) 2 2) 2 [.int .i64 x, .int .i64 y] := own_of (Nat.le_refl _) (Has.new w 3 [.int .i64 x, .int .i64 y]) (Nat.le_refl _) (by unfold maxLen; omega) rfl rfl
theorem ints_one {w W : World} (hb : Below w.heap.size w W) (x : Int) : IntsIs w [x] (.returned (.slice (some ⟨W.heap.size, 0, none⟩) 1 1)) (W.alloc (.cells #[.int .i64 x] 3)) := ⟨_, rfl, own_base (one_int W x) hb.size, hb.alloc hb.size _⟩
theorem ints_two {w W : World} (hb : Below w.heap.size w W) (x y : Int) : IntsIs w [x, y] (.returned (.slice (some ⟨W.heap.size, 0, none⟩) 2 2)) (W.alloc (.cells #[.int .i64 x, .int .i64 y] 3)) := ⟨_, rfl, own_base (two_int W x y) hb.size, hb.alloc hb.size _⟩
end FlowD
end Go.Proofs.YtmebhdffgpnplaaDoor
