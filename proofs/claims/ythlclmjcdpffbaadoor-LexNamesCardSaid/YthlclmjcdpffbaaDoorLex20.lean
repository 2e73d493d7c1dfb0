/- Rows of tokens; the statements' same and awake. -/
import Derived.Test.YthlclmjcdpffbaaDoorLex19
import Derived.Test.YthlclmjcdpffbaaDoorTraceQ3
namespace Go.Proofs.YthlclmjcdpffbaaDoor
open Go.RowKit ObjM Go.Maps
namespace LexD

def Tok.agg (t : Tok) : Value := .agg #[.int .i64 t.kind, .string t.text, .int .i64 t.lo, .int .i64 t.hi, .int .i64 t.n]
def TkCells (W : World) (b i : Nat) (t : Tok) : Prop :=
  W.cell? ⟨b, i * 5, none⟩ = some (.int .i64 t.kind) ∧ W.cell? ⟨b, i * 5 + 1, none⟩ = some (.string t.text) ∧ W.cell? ⟨b, i * 5 + 2, none⟩ = some (.int .i64 t.lo) ∧ W.cell? ⟨b, i * 5 + 3, none⟩ = some (.int .i64 t.hi) ∧ W.cell? ⟨b, i * 5 + 4, none⟩ = some (.int .i64 t.n)
/-- The slice v holds the tokens l. -/
def TksAt (W : World) (v : Value) (l : List Tok) : Prop :=
  (v = .slice none 0 0 ∧ l = []) ∨ ∃ b cap, v = .slice (some ⟨b, 0, none⟩) l.length cap ∧ l.length ≤ cap ∧ cap ≤ 9223372036854775807 ∧ b < W.heap.size ∧ ∀ (i : Nat) t, l[i]? = some t → TkCells W b i t
theorem TksAt.below {W W' : World} {v : Value} {l : List Tok} (h : TksAt W v l) (hb : Below W.heap.size W W') : TksAt W' v l := by
  rcases h with h | ⟨b, cap, h1, h2, h3, h4, h5⟩
  · exact .inl h
  · refine .inr ⟨b, cap, h1, h2, h3, Nat.lt_of_lt_of_le h4 hb.size, fun i a ha => ?_⟩
    obtain ⟨c0, c1, c2, c3, c4⟩ := h5 i a ha
    exact ⟨(hb.cell (p := ⟨b, _, none⟩) h4).trans c0, (hb.cell (p := ⟨b, _, none⟩) h4).trans c1, (hb.cell (p := ⟨b, _, none⟩) h4).trans c2, (hb.cell (p := ⟨b, _, none⟩) h4).trans c3, (hb.cell (p := ⟨b, _, none⟩) h4).trans c4⟩
theorem TksAt.shape {W : World} {v : Value} {l : List Tok} (h : TksAt W v l) : ∃ av cw, v = .slice av l.length cw := by
  rcases h with ⟨rfl, rfl⟩ | ⟨b, cap, rfl, _⟩
  · exact ⟨none, 0, rfl⟩
  · exact ⟨_, _, rfl⟩
theorem TksAt.at {W : World} {av : Option Addr} {cw : Nat} {l : List Tok} (h : TksAt W (.slice av l.length cw) l) (k : Nat) (hk : k < l.length) : ∃ b, av = some ⟨b, 0, none⟩ ∧ b < W.heap.size ∧ TkCells W b k l[k] := by
  rcases h with ⟨_, rfl⟩ | ⟨b, cap, h, _, _, hb, hc⟩
  · simp at hk
  · injection h with h4 h5 h6
    exact ⟨b, h4, hb, hc k _ (List.getElem?_eq_getElem hk)⟩
theorem rowT_at : ∀ (l : List Tok) (i : Nat) (e : Tok), l[i]? = some e → ∀ j, j < 5 → (rowT l)[i * 5 + j]? = e.cells[j]?
  | [], i, e, h, j, hj => by simp at h
  | a :: r, 0, e, h, j, hj => by
    simp at h
    subst h
    show (a.cells ++ rowT r)[0 * 5 + j]? = _
    rw [List.getElem?_append_left (by simp [Tok.cells]; omega), Nat.zero_mul, Nat.zero_add]
  | a :: r, i + 1, e, h, j, hj => by
    show (a.cells ++ rowT r)[(i + 1) * 5 + j]? = _
    rw [List.getElem?_append_right (by simp [Tok.cells]; omega)]
    have e1 : (i + 1) * 5 + j - a.cells.length = i * 5 + j := by simp [Tok.cells]; omega
    rw [e1]
    exact rowT_at r i e (by simpa using h) j hj
theorem tks_of_own {w : World} {base n : Nat} {v : Value} {l : List Tok} (hn : l.length = n) (h : w.ownsRow base 36 5 v n (rowT l)) : TksAt w v l := by
  subst hn
  rcases own_shape h with ⟨rfl, hn, -⟩ | ⟨g, cap, cs, rfl, -, hg, hc, hm, -, -⟩
  · exact .inl ⟨rfl, List.eq_nil_of_length_eq_zero hn⟩
  · refine .inr ⟨g, cap, rfl, hc, by unfold maxLen at hm; omega, hg.lt, ?_⟩
    intro i e hi
    have hcl : ∀ j, j < 5 → w.cell? ⟨g, i * 5 + j, none⟩ = e.cells[j]? := by
      intro j hj
      have hlt : i < l.length := (List.getElem?_eq_some_iff.1 hi).1
      have hr := rowT_at l i e hi j hj
      have hlt2 : i * 5 + j < (rowT l).length := by rw [rowT_len]; omega
      rw [own_cell h _ hlt2, ← hr, List.getElem?_eq_getElem hlt2]
    refine ⟨?_, ?_, ?_, ?_, ?_⟩
    · simpa [Tok.cells] using hcl 0 (by omega)
    · simpa [Tok.cells] using hcl 1 (by omega)
    · simpa [Tok.cells] using hcl 2 (by omega)
    · simpa [Tok.cells] using hcl 3 (by omega)
    · simpa [Tok.cells] using hcl 4 (by omega)
theorem eqTok (W : World) (x0 x2 x3 x4 : Int) (x1 : ByteArray) :
    Sem.run Tryd.prog (Op.equalIn 10000 36 (.agg #[.int .i64 x0, .string x1, .int .i64 x2, .int .i64 x3, .int .i64 x4]) (.agg #[.int .i64 x0, .string x1, .int .i64 x2, .int .i64 x3, .int .i64 x4])) W = .ok true W := by
  simp [go_sem]
/-- What Scan's tokens are, with the one at the end. -/
def scanL (s : ByteArray) (ts : List Tok) : List Tok := ts ++ [endTok s]
theorem scanL_len (s : ByteArray) (ts : List Tok) : (scanL s ts).length = ts.length + 1 := by simp [scanL]
set_option maxRecDepth 100000 in
set_option maxHeartbeats 4000000 in
theorem same_any (l : List Tok) (v u : Value) (w : World) (hl : l.length ≤ 1000000) (hv : TksAt w v l) (hu : TksAt w u l) :
    Calls Tryd.prog 12 #[v, u] w fun e w' => e = .returned (.bool true) ∧ Below w.heap.size w w' := by
  obtain ⟨av, cv, rfl⟩ := hv.shape
  obtain ⟨au, cu, rfl⟩ := hu.shape
  have HV := Lib.hid (fun (W : World) (hb : Below w.heap.size w W) => hv.below hb)
  have HU := Lib.hid (fun (W : World) (hb : Below w.heap.size w W) => hu.below hb)
  clear hv hu
  go_enter Tryd.func12, Tryd.ntmps12
  go_wp2
  go_loopw [13] (fun i wr => ∃ k : Nat, i = .int .i64 k ∧ k ≤ l.length ∧ Below w.heap.size w wr) (fun i _ => l.length - (intOf i).toNat)
  case atStart => exact ⟨0, rfl, by omega, Below.refl _ _⟩
  case round =>
    obtain ⟨k, rfl, hk, hB⟩ := hrel
    have HB := Lib.hid hB
    clear hB
    by_cases hlt : k < l.length
    · have hi1 : (k : Int) < (l.length : Int) := by omega
      obtain ⟨b1, rfl, hb1, c0, c1, c2, c3, c4⟩ := (HV.out _ HB.out).at k hlt
      obtain ⟨b2, rfl, hb2, d0, d1, d2, d3, d4⟩ := (HU.out _ HB.out).at k hlt
      generalize l[k] = t at c0 c1 c2 c3 c4 d0 d1 d2 d3 d4
      obtain ⟨t0, t1, t2, t3, t4⟩ := t
      simp only at c0 c1 c2 c3 c4 d0 d1 d2 d3 d4
      have HQ := fun W => eqTok W t0 t2 t3 t4 t1
      clear HV HU
      go_wp2
      go_quiet (fail)
      go_wp2
      go_roundw
      case rel => exact ⟨k + 1, by go_num, by omega, TraceD.below_drewN HB.out _⟩
      case measure => simp [intOf]; omega
    · have : k = l.length := by omega
      subst this
      go_wp2
      go_ret
      exact ⟨rfl, HB.out⟩
theorem scan_ex0 : ∃ t0 t1 t2 : Tok, scanV ⟨#[120, 46, 46, 49]⟩ = .ok [t0, t1, t2] ∧ t1.text = ⟨#[46, 46]⟩ ∧ t2.n = 1 := ⟨_, _, _, rfl, rfl, rfl⟩
theorem scan_ex1 : scanV ⟨#[97, 32, 33, 32, 98]⟩ = .error (2, 50) := rfl
theorem quote_ex : TraceD.quoteB [97, 10] = [34, 97, 92, 110, 34] := by decide
set_option maxRecDepth 100000 in
set_option maxHeartbeats 4000000 in
theorem awake_any (w : World) (hT : WTab w) : Calls Tryd.prog 9 #[] w fun e w' => e = .returned (.bool true) ∧ Below w.heap.size w w' := by
  have HS := fun (s : ByteArray) W (h : WTab W) => Lib.hid (scan_any s W h)
  have HQ := fun W => Lib.hid (TraceD.quote_any ⟨#[97, 10]⟩ (by decide) W)
  have hq : TraceD.quoteB (⟨#[97, 10]⟩ : ByteArray).data.toList = [34, 97, 92, 110, 34] := quote_ex
  rw [hq] at HQ
  have HT := Lib.hid hT
  clear hq hT
  go_enter Tryd.func9, Tryd.ntmps9
  go_wp2_with fail
  refine ((HS _ _ HT.out).out).mono ?_
  intro e w1 h1
  obtain ⟨t0, t1, t2, hv, ht1, ht2⟩ := scan_ex0
  cases h1 with
  | long _ h _ => exact absurd h (by decide)
  | err p er _ _ h _ _ => rw [hv] at h; cases h
  | ok ts tv _ _ h hl hrow hb1 =>
    rw [hv] at h
    injection h with h
    subst h
    have htk := tks_of_own (l := [t0, t1, t2] ++ [endTok ⟨#[120, 46, 46, 49]⟩]) rfl hrow
    have HB1 := Lib.hid hb1
    have HTk := Lib.hid htk
    obtain ⟨av, cv, rfl⟩ := htk.shape
    clear hrow htk hb1 hv hl
    go_wp2_with fail
    refine ((HS _ _ (HT.out.below HB1.out)).out).mono ?_
    intro e w2 h2
    cases h2 with
    | long _ h _ => exact absurd h (by decide)
    | ok ts tv _ _ h _ _ _ => rw [scan_ex1] at h; cases h
    | err p er _ _ h _ hb2 =>
      rw [scan_ex1] at h
      injection h with h
      injection h with hp he
      subst hp he
      have HB2 := Lib.hid (HB1.out.trans (hb2.mono HB1.out.size))
      have htk := HTk.out.below hb2
      obtain ⟨b1, rfl, hb1, c0, c1, c2, c3, c4⟩ := htk.at 1 (by simp)
      obtain ⟨b2, hbb, -, d0, d1, d2, d3, d4⟩ := htk.at 2 (by simp)
      injection hbb with hbb
      injection hbb with hbb
      subst hbb
      simp [ht1] at c1
      simp [ht2] at d4
      clear c0 c2 c3 c4 d0 d1 d2 d3 hb2 htk HS
      go_wp2_with fail
      refine ((HQ _).out).mono ?_
      rintro e w3 ⟨rfl, hb3⟩
      have HB3 := Lib.hid (HB2.out.trans (hb3.mono HB2.out.size))
      clear hb3
      go_wp2
      go_ret
      exact ⟨rfl, HB3.out⟩
end LexD
end Go.Proofs.YthlclmjcdpffbaaDoor
