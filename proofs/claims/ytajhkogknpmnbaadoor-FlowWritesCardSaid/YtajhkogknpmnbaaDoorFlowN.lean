/- The nearest places: what they are. -/
import Derived.Test.YtajhkogknpmnbaaDoorFlowL
import Derived.Lib.SliceRun
namespace Go.Proofs.YtajhkogknpmnbaaDoor
open Go.RowKit ObjM
namespace FlowD
open FlowM PopM

/-- Of all that each way from n has, p is the nearest. -/
def Near (next : Nat → List Int) (n p : Nat) : Prop := ∀ q, q ≠ n → Cut (nxO next) n q → Cut (nxO next) p q
/-- What a place's nearest is. -/
def PostSpec (next : Nat → List Int) (m n : Nat) (z : Int) : Prop :=
  (z = -1 ∧ (Live (nxO next) n → ∀ p, p < m → p ≠ n → Cut (nxO next) n p → ¬ Near next n p)) ∨ ∃ p : Nat, z = (p : Int) ∧ p < m ∧ Live (nxO next) n ∧ p ≠ n ∧ Cut (nxO next) n p ∧ Near next n p
theorem post_unique {next : Nat → List Int} {m n : Nat} {y z : Int} (h : PostSpec next m n y) (k : PostSpec next m n z) : y = z := by
  rcases h with ⟨rfl, h⟩ | ⟨p, rfl, hp, hl, hpn, hc, hn⟩
  · rcases k with ⟨rfl, _⟩ | ⟨q, rfl, hq, hl, hqn, hc, hn⟩
    · rfl
    · exact absurd hn (h hl q hq hqn hc)
  · rcases k with ⟨rfl, k⟩ | ⟨q, rfl, hq, hl2, hqn, hc2, hn2⟩
    · exact absurd hn (k hl p hp hpn hc)
    · have : p = q := cut_antisymm (live_cut hl hc) (hn q hqn hc2) (hn2 p hpn hc)
      rw [this]
theorem post_dead {next : Nat → List Int} {m n : Nat} (h : ¬ Live (nxO next) n) : PostSpec next m n (-1) := .inl ⟨rfl, fun hl => absurd hl h⟩
theorem way_not_round {next : Nat → List (Option Nat)} {n : Nat} (h : next n = [some n]) : ¬ Live next n := by
  rintro ⟨l, hl⟩
  have key : ∀ (k : Nat) (l : List Nat), l.length = k → ¬ FlowM.Way next n l := by
    intro k
    induction k with
    | zero =>
      intro l hk hl
      obtain ⟨r, rfl⟩ := way_head hl
      simp at hk
    | succ k ih =>
      intro l hk hl
      cases hl with
      | stop h1 => rw [h] at h1; simp at h1
      | step h1 h2 =>
        rw [h] at h1
        simp at h1
        subst h1
        exact ih _ (by simpa using hk) h2
  exact key _ l rfl hl
theorem post_one {next : Nat → List Int} {m n : Nat} {live : Nat → Bool} {z : Int} (hP : LiveP next m live) (hl : live n = true) (h : next n = [z]) : PostSpec next m n z := by
  have hr := hP.nx.r n z (by rw [h]; simp)
  have hx : nxO next n = [toO z] := by unfold nxO; rw [h]; rfl
  rcases hr with rfl | hr
  · refine .inl ⟨rfl, fun _ p _ hpn hc _ => ?_⟩
    rcases cut_step.1 hc with h1 | ⟨h1, _⟩
    · exact hpn h1
    · exact h1 (by rw [hx]; simp [toO])
  · obtain ⟨k, rfl⟩ := Int.eq_ofNat_of_zero_le hr.1
    have hk : toO (k : Int) = some k := (toO_some (.inr (by omega))).2 rfl
    rw [hk] at hx
    have hln := (hP.ll n).1 hl
    have hkn : k ≠ n := by
      rintro rfl
      exact way_not_round hx hln
    have hc : Cut (nxO next) n k := cut_step.2 (.inr ⟨by rw [hx]; simp, fun q hq => by rw [hx] at hq; simp at hq; subst hq; exact cut_self _⟩)
    refine .inr ⟨k, rfl, by omega, hln, hkn, hc, fun q hq hcq => ?_⟩
    rcases cut_step.1 hcq with h1 | ⟨_, h1⟩
    · exact absurd h1 hq
    · exact h1 k (by rw [hx]; simp)
theorem pop_range {x m : Nat} (hm : m ≤ 64) (h : ∀ p, x.testBit p = true → p < m) : popC x = (List.range m).countP x.testBit := by
  unfold popC
  obtain ⟨d, hd⟩ : ∃ d, 64 = m + d := ⟨64 - m, by omega⟩
  rw [hd, List.range_add, List.countP_append, List.countP_map]
  refine Eq.trans (congrArg _ ?_) (Nat.add_zero _)
  rw [List.countP_eq_zero]
  intro i _ hi
  have h9 : m + i < m := h (m + i) hi
  omega
theorem fins_mem {x p : Nat} (hx : x < LabelM.M64) : p ∈ posOf 0 [x] ↔ x.testBit p = true := by
  simp only [posOf, List.append_nil, List.mem_map]
  constructor
  · rintro ⟨i, hi, rfl⟩
    have := (List.mem_filter.1 hi).2
    simpa using this
  · intro h
    have hp : p < 64 := by
      apply Nat.lt_of_not_le
      intro hle
      rw [high_bit hx hle] at h
      cases h
    exact ⟨⟨p, hp⟩, List.mem_filter.2 ⟨List.mem_finRange _, h⟩, by simp⟩
open Classical in
/-- What is taken for the nearest is the nearest. -/
theorem post_near {next : Nat → List Int} {m n : Nat} {live : Nat → Bool} {ys : Nat → Nat} {szs : List Int} (hP : LiveP next m live) (hl : live n = true) (hc : ∀ n p, live n = true → ((ys n).testBit p = true ↔ Cut (nxO next) n p)) (hlt : ∀ n, live n = true → ys n < LabelM.M64)
    (hs : ∀ q, live q = true → szs.getD q 0 = (popC (ys q) : Int)) : PostSpec next m n (nearV n szs (posOf 0 [ys n])) := by
  have hln := (hP.ll n).1 hl
  have hnm := hP.lm n hl
  have hin : ∀ k p, live k = true → (ys k).testBit p = true → p < m := by
    intro k p hk hb
    obtain ⟨l, hw⟩ := (hP.ll k).1 hk
    exact way_in hP.nx hw p ((hc k p hk).1 hb l hw)
  have hmem : ∀ p, p ∈ posOf 0 [ys n] ↔ Cut (nxO next) n p := fun p => (fins_mem (hlt n hl)).trans (hc n p hl)
  -- the test tells the nearest
  have htest : ∀ p, Cut (nxO next) n p → (nearT n szs p = true ↔ p ≠ n ∧ Near next n p) := by
    intro p hp
    have hlp : live p = true := (hP.ll p).2 (live_cut hln hp)
    have hpm := hP.lm p hlp
    unfold nearT
    rw [Bool.and_eq_true, bne_iff_ne, beq_iff_eq, hs p hlp, hs n hl]
    refine and_congr_right fun hpn => ?_
    have hC : ∀ a b, a < m → b < m → ((live a && (ys a).testBit b || (!live a && decide (Cut (nxO next) a b))) = true ↔ Cut (nxO next) a b) := by
      intro a b _ _
      cases e : live a with
      | true => simpa using hc a b e
      | false => simp
    have h1 := nearest_size (next := nxO next) (m := m) (n := n) (p := p) (C := fun a b => live a && (ys a).testBit b || (!live a && decide (Cut (nxO next) a b))) hC hln hnm hpm hpn hp
    have e1 : ∀ a, live a = true → (List.range m).countP (fun b => live a && (ys a).testBit b || (!live a && decide (Cut (nxO next) a b))) = popC (ys a) := by
      intro a ha
      rw [pop_range hP.m64 (fun p hb => hin a p ha hb)]
      apply List.countP_congr
      intro b _
      simp [ha]
    rw [e1 p hlp, e1 n hl] at h1
    constructor
    · intro h q hq hcq
      have hqm : q < m := hP.lm q ((hP.ll q).2 (live_cut hln hcq))
      exact h1.1 (by omega) q hqm hq hcq
    · intro h
      have := h1.2 (fun q _ hq hcq => h q hq hcq)
      omega
  unfold nearV
  cases e : (posOf 0 [ys n]).find? (nearT n szs) with
  | some p =>
    have hp := (hmem p).1 (List.mem_of_find?_eq_some e)
    have ht := (htest p hp).1 (List.find?_some e)
    exact .inr ⟨p, rfl, hP.lm p ((hP.ll p).2 (live_cut hln hp)), hln, ht.1, hp, ht.2⟩
  | none =>
    refine .inl ⟨rfl, fun _ p _ hpn hcp hnear => ?_⟩
    have := List.find?_eq_none.1 e p ((hmem p).2 hcp)
    exact this ((htest p hcp).2 ⟨hpn, hnear⟩)
end FlowD
end Go.Proofs.YtajhkogknpmnbaaDoor
namespace Go.Proofs.YtajhkogknpmnbaaDoor
open Go.RowKit ObjM
namespace FlowD
open FlowM PopM InstrM InstrD

def nextW (ws : List Nat) : Nat → List Int := fun n => nextV ws (n : Int)
theorem plV_in (m : Nat) (x : Int) : plV m x = -1 ∨ 0 ≤ plV m x ∧ plV m x < m := by
  unfold plV
  split
  · exact .inl rfl
  · exact .inr (by omega)
theorem nx_of (ws : List Nat) : Nx (nextW ws) ws.length := by
  refine ⟨?_, ?_, ?_⟩
  · intro n z hz
    unfold nextW nextV at hz
    split at hz
    · cases hz
    · unfold leadV bothV at hz
      have h1 := plV_in ws.length (dW (ws.getD (n : Int).toNat 0 : Nat))
      have h2 := plV_in ws.length ((n : Int) + 1)
      have h3 := plV_in ws.length ((n : Int) + 2)
      generalize plV ws.length (dW (ws.getD (n : Int).toNat 0 : Nat)) = A at hz h1
      generalize plV ws.length ((n : Int) + 1) = B at hz h2
      generalize plV ws.length ((n : Int) + 2) = C at hz h3
      split at hz
      · simp at hz; omega
      split at hz
      · simp at hz; omega
      split at hz
      · split at hz
        · simp at hz; omega
        · simp at hz; omega
      · simp at hz; omega
  · intro n
    unfold nextW nextV
    split
    · simp
    · unfold leadV bothV
      split
      · simp
      split
      · simp
      split
      · split <;> simp
      · simp
  · intro n hn
    unfold nextW nextV
    rw [if_pos (by omega)]
/-- What is handed back: for each word its nearest place. -/
def PostsIs (w : World) (ws : List Nat) (e : Ending) (w' : World) : Prop :=
  ∃ (Q : Nat) (R : List Int), e = .returned (.slice (some ⟨Q, 0, none⟩) ws.length ws.length) ∧ w.heap.size ≤ Q ∧ RowAt w' Q R ∧ R.length = ws.length ∧ (∀ (n : Nat) (h : n < R.length), PostSpec (nextW ws) ws.length n R[n]) ∧ Below w.heap.size w w'
def dC (ds : List Int) (m : Nat) : List Value := (ds ++ List.replicate (m - ds.length) 0).map (Value.int .i64)
theorem dC_zero (m : Nat) : dC [] m = List.replicate m (.int .i64 0) := by simp [dC]
theorem dC_len {ds : List Int} {m : Nat} (h : ds.length ≤ m) : (dC ds m).length = m := by
  simp [dC]
  omega
theorem dC_set {ds : List Int} {m : Nat} {x : Int} (h : ds.length < m) : (dC ds m).set ds.length (.int .i64 x) = dC (ds ++ [x]) m := by
  unfold dC
  rw [← List.map_set, List.set_append_right _ _ (Nat.le_refl _), Nat.sub_self]
  congr 1
  cases e : m - ds.length with
  | zero => omega
  | succ q =>
    have e2 : m - (ds ++ [x]).length = q := by simp; omega
    rw [e2, List.replicate_succ, List.set_cons_zero]
    simp
theorem dC_full {ds : List Int} : dC ds ds.length = ds.map (Value.int .i64) := by simp [dC]
theorem rowAt_dC {w : World} {Q : Nat} {ds : List Int} {m : Nat} (h : Has w Q 3 (dC ds m)) (hm : ds.length = m) : RowAt w Q ds := by
  subst hm
  rw [dC_full] at h
  exact ⟨_, h, fun i hi => by simp [hi]⟩
/-- How many each set holds, of the first ones of a list. -/
def szC (l : List Int) (j m : Nat) (ys : Nat → Nat) : List Value := (List.range m).map fun (q : Nat) => Value.int .i64 (if (q : Int) ∈ l.take j then (popC (ys q) : Int) else 0)
theorem szC_zero (l : List Int) (m : Nat) (ys : Nat → Nat) : szC l 0 m ys = List.replicate m (.int .i64 0) := by
  apply List.ext_getElem?
  intro i
  unfold szC
  rw [List.getElem?_map, List.getElem?_replicate]
  by_cases hi : i < m
  · rw [List.getElem?_range hi, if_pos hi]
    simp
  · rw [List.getElem?_eq_none (by simp; omega), if_neg hi]
    rfl
theorem szC_get (l : List Int) (j m : Nat) (ys : Nat → Nat) {q : Nat} (h : q < m) : (szC l j m ys)[q]? = some (.int .i64 (if (q : Int) ∈ l.take j then (popC (ys q) : Int) else 0)) := by
  unfold szC
  rw [List.getElem?_map, List.getElem?_range h]
  rfl
theorem szC_set {l : List Int} {j m n : Nat} {ys : Nat → Nat} (hj : j < l.length) (hn : l[j] = (n : Int)) (hnm : n < m) : (szC l j m ys).set n (.int .i64 (popC (ys n) : Int)) = szC l (j + 1) m ys := by
  apply List.ext_getElem?
  intro i
  rw [List.getElem?_set]
  by_cases hi : i < m
  · rw [szC_get l j m ys hi, szC_get l (j + 1) m ys hi, List.take_succ_eq_append_getElem hj, hn]
    by_cases e : n = i
    · subst e
      rw [if_pos rfl, if_pos (by simp [szC]; exact hnm)]
      simp
    · rw [if_neg e]
      have e2 : ¬ ((i : Int) = (n : Int)) := by omega
      simp only [List.mem_append, List.mem_singleton, e2, or_false]
  · have h1 : (szC l j m ys)[i]? = none := List.getElem?_eq_none (by simp [szC]; omega)
    have h2 : (szC l (j + 1) m ys)[i]? = none := List.getElem?_eq_none (by simp [szC]; omega)
    rw [h1, h2, if_neg (by omega)]
def szL (l : List Int) (m : Nat) (ys : Nat → Nat) : List Int := (List.range m).map fun (q : Nat) => if (q : Int) ∈ l then (popC (ys q) : Int) else 0
theorem sz_row {w : World} {Z m : Nat} {l : List Int} {ys : Nat → Nat} (h : Has w Z 3 (szC l l.length m ys)) : RowAt w Z (szL l m ys) := by
  refine ⟨_, h, fun i hi => ?_⟩
  have him : i < m := by simpa [szL] using hi
  rw [szC_get l l.length m ys him, List.take_length]
  simp [szL]
theorem sz_len (l : List Int) (m : Nat) (ys : Nat → Nat) : (szL l m ys).length = m := by simp [szL]
theorem pop_le (x : Nat) : popC x ≤ 64 := by
  have := List.countP_le_length (p := x.testBit) (l := List.range 64)
  simpa [popC] using this
theorem sz_bound (l : List Int) (m : Nat) (ys : Nat → Nat) : ∀ z ∈ szL l m ys, 0 ≤ z ∧ z ≤ 1000000 := by
  intro z hz
  obtain ⟨q, _, rfl⟩ := List.mem_map.1 hz
  have := pop_le (ys q)
  split <;> omega
theorem sz_get {l : List Int} {m : Nat} {ys : Nat → Nat} {q : Nat} (hq : q < m) (hl : (q : Int) ∈ l) : (szL l m ys).getD q 0 = (popC (ys q) : Int) := by
  simp [szL, List.getD, hq, hl]
end FlowD
end Go.Proofs.YtajhkogknpmnbaaDoor
namespace Go.Proofs.YtajhkogknpmnbaaDoor
open Go.RowKit ObjM
namespace FlowD
open FlowM PopM InstrM InstrD LabelD

theorem lists_of {ws : List Nat} {m : Nat} {Ls : List (Nat × Nat × List Int)} (h : Ls.map (·.2.2) = nextsV ws m) : Ls.length = m ∧ ∀ (i : Nat) (hi : i < Ls.length), Ls[i].2.2 = nextW ws i := by
  have hl : Ls.length = m := by
    have := congrArg List.length h
    simpa [nextsV] using this
  refine ⟨hl, fun i hi => ?_⟩
  have h2 : (Ls.map (·.2.2))[i]? = (nextsV ws m)[i]? := by rw [h]
  unfold nextsV at h2
  rw [List.getElem?_map, List.getElem?_map, List.getElem?_eq_getElem hi, List.getElem?_range (by omega)] at h2
  exact Option.some.inj h2
theorem liveP_of {next : Nat → List Int} {m : Nat} {l : List Int} (h64 : m ≤ 64) (hN : Nx next m) (hl : ∀ z ∈ l, 0 ≤ z ∧ z < m) (hx : ∀ x : Nat, (x : Int) ∈ l ↔ Live (fun n => (next n).map toO) x) : LiveP next m (liveOf l l.length) := by
  have e : ∀ n, liveOf l l.length n = true ↔ (n : Int) ∈ l := fun n => by simp [liveOf]
  refine ⟨h64, hN, fun n hn => ?_, fun n => (e n).trans (hx n)⟩
  have := hl _ ((e n).1 hn)
  omega
theorem dC_get {R : List Int} {m n : Nat} (hR : R.length = n) (hn : n < m) : ∃ old : Value, (dC R m)[n]? = some old := ⟨_, List.getElem?_eq_getElem (by rw [dC_len (by omega)]; exact hn)⟩
theorem dC_at {R : List Int} {m i : Nat} (hR : R.length ≤ m) (hi : i < m) : ∃ old : Value, (dC R m)[i]? = some old := ⟨_, List.getElem?_eq_getElem (by rw [dC_len hR]; exact hi)⟩
theorem dC_put {w : World} {Q m n : Nat} {R : List Int} (h : Has w Q 3 (dC R m)) (hR : R.length = n) (hn : n < m) (z : Int) : Has (w.setCell ⟨Q, n, none⟩ (.int .i64 z)) Q 3 (dC (R ++ [z]) m) := by
  subst hR
  rw [← dC_set hn]
  exact h.set _ _
theorem dC_again {w : World} {Q m n : Nat} {R : List Int} {y : Int} (h : Has w Q 3 (dC (R ++ [y]) m)) (hR : R.length = n) (hn : n < m) (z : Int) : Has (w.setCell ⟨Q, n, none⟩ (.int .i64 z)) Q 3 (dC (R ++ [z]) m) := by
  subst hR
  have h2 := h.set R.length (.int .i64 z)
  rw [← dC_set hn, List.set_set, dC_set hn] at h2
  exact h2
theorem posts_push {next : Nat → List Int} {m n : Nat} {R : List Int} {z : Int} (hR : R.length = n) (h : ∀ (i : Nat) (h : i < R.length), PostSpec next m i R[i]) (hz : PostSpec next m n z) : ∀ (i : Nat) (h : i < (R ++ [z]).length), PostSpec next m i (R ++ [z])[i] := by
  intro i hi
  by_cases e : i < R.length
  · rw [List.getElem_append_left e]
    exact h i e
  · have : i = n := by simp at hi; omega
    subst this
    subst hR
    simpa using hz
/-- What stands in memory behind the settling. -/
structure Base (w W : World) (S N m : Nat) (va : Option Addr) (Ls : List (Nat × Nat × List Int)) (l : List Int) (B : Nat) (Hf ys : Nat → Nat) : Prop where
  s : SetsAt W B S m (liveOf l l.length) Hf ys
  n : ListsTo W N m Ls
  o : l ≠ [] → ∃ g, va = some ⟨g, 0, none⟩ ∧ RowAt W g l
  b : Below w.heap.size w W
theorem Base.below {w W W' : World} {S N m : Nat} {va : Option Addr} {Ls : List (Nat × Nat × List Int)} {l : List Int} {B : Nat} {Hf ys : Nat → Nat} (h : Base w W S N m va Ls l B Hf ys) (hb : Below W.heap.size W W') : Base w W' S N m va Ls l B Hf ys :=
  ⟨h.s.keeps (Keeps.below' hb []) (by simp) (fun q hq hl => by simp), h.n.below hb h.n.n.lt (Nat.le_refl _), fun hl => by
    obtain ⟨g, h1, h2⟩ := h.o hl
    exact ⟨g, h1, h2.below hb h2.lt⟩, h.b.trans (hb.mono h.b.size)⟩
set_option maxRecDepth 100000 in
set_option maxHeartbeats 16000000 in
theorem posts_some (p : PrV) (ws : List Nat) (w : World) (hw : WordsAt w p ws) (hT : Tabs w) (hBr : Bru w) (hgb : 0 < w.heap.size) (h1 : 1 ≤ ws.length) (h64 : ws.length ≤ 64) : Calls Tryd.prog 14 #[p.agg] w (PostsIs w ws) := by
  obtain ⟨a0, n0, c0, rg, wa, wn, wc, a3, n3, c3, a4, n4, c4, a5, n5, c5⟩ := p
  obtain rfl : wn = ws.length := hw.len
  obtain ⟨hx, hb⟩ := pr_box w ⟨a0, n0, c0, rg, wa, ws.length, wc, a3, n3, c3, a4, n4, c4, a5, n5, c5⟩
  simp only [PrV.cells] at hx hb
  obtain ⟨i0, hi, hz0, hz1, hz2⟩ := info_fl
  have hq : ∀ (W : World) (a : Option Addr) (n c n' c' : Nat), (binOp .eql 54 (.slice a n c) (.slice none n' c')).run Tryd.prog W = .ok (.bool a.isNone) W := fun W a n c n' c' => Lib.run_eql_slice_nil W _ _ a n c n' c' Tryd.underlying54
  have HNx := Lib.hid (nexts_any _ ws _ (hw.below hb) (hT.below hb))
  simp only [PrV.agg] at HNx
  have HBr : Hid (∀ W, Below w.heap.size w W → Bru W ∧ 0 < W.heap.size) := Lib.hid fun W hW => ⟨fun j hj => (hW.cell (p := ⟨_, j, none⟩) hgb).trans (hBr j hj), Nat.lt_of_lt_of_le hgb hW.size⟩
  have HNX := Lib.hid (nx_of ws)
  obtain ⟨m, hm⟩ : ∃ m, ws.length = m := ⟨_, rfl⟩
  have HM := Lib.hid hm
  unfold PrV.agg
  simp only
  rw [hm] at h1 h64 HNX hx hb HNx ⊢
  obtain ⟨w1, hw1⟩ : ∃ w1, w.alloc (.cells #[.slice a0 n0 c0, .int .i64 rg, .slice wa m wc, .slice a3 n3 c3, .slice a4 n4 c4, .slice a5 n5 c5] 28) = w1 := ⟨_, rfl⟩
  have hsz1 : w1.heap.size = w.heap.size + 1 := by rw [← hw1]; simp
  rw [hw1] at hx hb HNx
  have HB := Lib.hid hb
  have x0 := hx.cell 0
  have x1 := hx.cell 1
  have x2 := hx.cell 2
  have x3 := hx.cell 3
  have x4 := hx.cell 4
  have x5 := hx.cell 5
  have lx := hx.lt
  simp only [List.getElem?_cons_zero, List.getElem?_cons_succ] at x0 x1 x2 x3 x4 x5
  have HW1 := Lib.hid hw1
  rw [← hw1] at x0 x1 x2 x3 x4 x5 lx HNx
  clear hx hb hw hT hBr hgb hm hw1
  go_enter Tryd.func14, Tryd.ntmps14
  go_wp2_with fail
  refine HNx.out.mono ?_
  rintro e w2 ⟨N, Ls, rfl, hN, hL, hnx, hb2⟩
  rw [HW1.out] at hN hb2
  obtain ⟨hlen, hnx2⟩ := lists_of hnx
  have HFe := Lib.hid (fromEnd_any N m Ls (nextW ws) w2 h64 h1 hL hlen hnx2 HNX.out)
  have HL := Lib.hid hL
  have HLn := Lib.hid hlen
  have HLx := Lib.hid hnx2
  have HB2 := Lib.hid (HB.out.trans (hb2.mono HB.out.size))
  clear HNx hN hL hnx hlen hnx2 hb2 x0 x1 x2 x3 x4 x5 lx hsz1
  go_wp2_with fail
  refine HFe.out.mono ?_
  rintro e w3 ⟨v, l, rfl, ho, hnd, hl, hlx, hb3⟩
  have hP := liveP_of h64 HNX.out hl hlx
  have hL3 := HL.out.below hb3 HL.out.n.lt (Nat.le_refl _)
  have hrow : (l = [] ∧ v = .slice none 0 0) ∨ ∃ g cap, v = .slice (some ⟨g, 0, none⟩) l.length cap ∧ RowAt w3 g l := by
    rcases row_of_own ho with h | ⟨g, cap, h2, _, h4⟩
    · exact .inl h
    · exact .inr ⟨g, cap, h2, h4⟩
  obtain ⟨va, vc, rfl, hva⟩ : ∃ va vc, v = .slice va l.length vc ∧ (l ≠ [] → ∃ g, va = some ⟨g, 0, none⟩ ∧ RowAt w3 g l) := by
    rcases hrow with ⟨h2, h3⟩ | ⟨g, cap, h2, h3⟩
    · exact ⟨none, 0, by rw [h3, h2]; rfl, fun h => absurd h2 h⟩
    · exact ⟨_, cap, h2, fun _ => ⟨g, rfl, h3⟩⟩
  have HSe := Lib.hid (settle_any N m _ Ls (nextW ws) l w3 hP h1 hL3 HLn.out HLx.out hrow hnd hl)
  have HP := Lib.hid hP
  have HVa := Lib.hid hva
  have HlR := Lib.hid hl
  have HL3 := Lib.hid hL3
  have HB3 := Lib.hid (HB2.out.trans (hb3.mono HB2.out.size))
  have hll : l.length ≤ 64 := Nat.le_trans (nodup_len hnd hl) h64
  clear HFe HL HB2 ho hnd hl hlx hb3 hP hL3 hrow hva
  go_wp2_with fail
  refine HSe.out.mono ?_
  rintro e w4 ⟨S, Hf, ys, rfl, hs, hc, hlt, hb4⟩
  have HBa : Hid (Base w w4 S N m va Ls l w3.heap.size Hf ys) := Lib.hid ⟨hs, HL3.out.below hb4 HL3.out.n.lt (Nat.le_refl _), fun h => by
    obtain ⟨g, h2, h3⟩ := HVa.out h
    exact ⟨g, h2, h3.below hb4 h3.lt⟩, HB3.out.trans (hb4.mono HB3.out.size)⟩
  have HCu := Lib.hid hc
  have HLt := Lib.hid hlt
  clear HSe HL3 HVa HB3 hs hc hlt hb4
  obtain ⟨L, hLl⟩ : ∃ L, l.length = L := ⟨_, rfl⟩
  have HLl := Lib.hid hLl
  rw [hLl] at hll ⊢
  clear hLl
  go_wp2_with (at_make; refine wpList_make_full _ rfl _ _ 26 rfl w4.heap.size 3 i0 (.int .i64 0) 1 Tryd.underlying26 hi hz0 hz1 .i64 .i64 (m : Int) (m : Int) m rfl rfl rfl rfl ?c1 ?c2 ?c3 ?_)
  case c1 => rw [hz2]; omega
  case c2 => unfold maxLen; omega
  case c3 => exact Nat.le_refl _
  intro w5 hrow hgrow
  have hh := made_has hrow
  have hb5 : Below w4.heap.size w4 w5 := (Below.refl _ w4).grown hgrow (Nat.le_refl _) (fun k hk => by cases hk)
  have HZ0 : Hid (Has w5 w4.heap.size 3 (szC l 0 m ys) ∧ Below w4.heap.size w4 w5) := Lib.hid ⟨by rw [szC_zero]; exact hh, hb5⟩
  clear hrow hgrow hh hb5
  go_wp2
  go_loopw [27] (fun i wr => ∃ j : Nat, i = .int .i64 (j : Int) ∧ j ≤ L ∧ Hid (Has wr w4.heap.size 3 (szC l j m ys) ∧ Below w4.heap.size w4 wr)) (fun i _ => L - (intOf i).toNat)
  case atStart => exact ⟨0, rfl, by omega, HZ0⟩
  case round =>
    obtain ⟨j, rfl, hj, HZ⟩ := hrel
    clear HZ0
    by_cases hlt : j < L
    · have hi1 : (j : Int) < (L : Int) := by omega
      have hi0 : (0 : Int) ≤ (j : Int) := by omega
      have hjl : j < l.length := by rw [HLl.out]; exact hlt
      have hBr := HBa.out.below HZ.out.2
      obtain ⟨g, hvg, hrow⟩ := hBr.o (by intro e; rw [e] at hjl; simp at hjl)
      subst hvg
      have hcj := hrow.cell hjl
      have hgl := hrow.lt
      have hz := HlR.out _ (List.getElem_mem hjl)
      have hmem : l[j] ∈ l := List.getElem_mem hjl
      have HV := Lib.hid (fun n h (hn : n < m) => szC_set (ys := ys) (n := n) hjl h hn)
      obtain ⟨z, hzj⟩ : ∃ z, l[j] = z := ⟨_, rfl⟩
      rw [hzj] at hcj hz hmem
      obtain ⟨n, rfl⟩ := Int.eq_ofNat_of_zero_le hz.1
      have hn : n < m := by omega
      have hn1 : (n : Int) < (m : Int) := by omega
      have hn0 : (0 : Int) ≤ (n : Int) := by omega
      have hlive : liveOf l l.length n = true := by simpa [liveOf] using hmem
      have hcs := hBr.s.cell hn
      rw [if_pos hlive] at hcs
      have hls := hBr.s.s.lt
      have HSz := Lib.hid (size_one (Hf n) (ys n) 1 wr (hBr.s.e n hn hlive).1 (HLt.out n hlive))
      have HV2 := Lib.hid (HV.out n hzj hn)
      have hZ := HZ.out.1.cell n
      rw [szC_get l j m ys hn] at hZ
      have lZ := HZ.out.1.lt
      have fZ := HZ.out.1.frozen n
      have HZ2 : Hid (Has (wr.setCell ⟨w4.heap.size, n, none⟩ (.int .i64 (popC (ys n) : Int))) w4.heap.size 3 (szC l (j + 1) m ys) ∧ Below w4.heap.size w4 (wr.setCell ⟨w4.heap.size, n, none⟩ (.int .i64 (popC (ys n) : Int)))) := Lib.hid ⟨by rw [← HV2.out]; exact HZ.out.1.set n _, HZ.out.2.setCell (p := ⟨w4.heap.size, n, none⟩) (Nat.le_refl _) _⟩
      generalize (if (n : Int) ∈ l.take j then (popC (ys n) : Int) else 0) = old at hZ
      generalize popC (ys n) = pc at HSz HZ2
      clear HV HV2 HZ hBr hzj hrow hlive hmem
      go_wp2_with fail
      refine HSz.out.mono ?_
      rintro e w6 ⟨rfl, rfl⟩
      clear HSz
      go_wp2
      go_roundw
      case rel => exact ⟨j + 1, by go_num, by omega, HZ2⟩
      case measure => simp [intOf]; omega
    · have hjm : j = L := by omega
      subst hjm
      have HBr2 : Hid (Base w wr S N m va Ls l w3.heap.size Hf ys ∧ RowAt wr w4.heap.size (szL l m ys)) := Lib.hid ⟨HBa.out.below HZ.out.2, sz_row (by rw [HLl.out]; exact HZ.out.1)⟩
      have hwz : w.heap.size ≤ wr.heap.size := HBr2.out.1.b.size
      clear HZ HBa hlt hj
      go_wp2_with (at_make; refine wpList_make_full _ rfl _ _ 26 rfl wr.heap.size 3 i0 (.int .i64 0) 1 Tryd.underlying26 hi hz0 hz1 .i64 .i64 (m : Int) (m : Int) m rfl rfl rfl rfl ?d1 ?d2 ?d3 ?_)
      case d1 => rw [hz2]; omega
      case d2 => unfold maxLen; omega
      case d3 => exact Nat.le_refl _
      intro w7 hrow hgrow
      have hh := made_has hrow
      have hb7 : Below wr.heap.size wr w7 := (Below.refl _ wr).grown hgrow (Nat.le_refl _) (fun k hk => by cases hk)
      have HQ0 : Hid (Has w7 wr.heap.size 3 (dC [] m) ∧ (∀ (i : Nat) (h : i < ([] : List Int).length), PostSpec (nextW ws) m i ([] : List Int)[i]) ∧ Below wr.heap.size wr w7) := Lib.hid ⟨by rw [dC_zero]; exact hh, fun i h => by simp at h, hb7⟩
      have HD : Hid (∀ W, Below wr.heap.size wr W → Base w W S N m va Ls l w3.heap.size Hf ys ∧ RowAt W w4.heap.size (szL l m ys)) := Lib.hid fun W hW => ⟨HBr2.out.1.below hW, HBr2.out.2.below hW HBr2.out.2.lt⟩
      clear hrow hgrow hh hb7 HBr2 hi hz0 hz1 hz2
      go_wp2
      obtain ⟨W6, rfl⟩ : ∃ W6, W6 = wr := ⟨_, rfl⟩
      generalize W6.heap.size = Q at HQ0 HD hwz ⊢
      go_loopw [43] (fun i wv => ∃ (n : Nat) (R : List Int), i = .int .i64 (n : Int) ∧ n ≤ m ∧ R.length = n ∧ Hid (Has wv Q 3 (dC R m) ∧ (∀ (i : Nat) (h : i < R.length), PostSpec (nextW ws) m i R[i]) ∧ Below Q W6 wv)) (fun i _ => m - (intOf i).toNat)
      case atStart => exact ⟨0, [], rfl, by omega, rfl, HQ0⟩
      case round =>
        obtain ⟨n, R, rfl, hn, hR, HS⟩ := hrel
        clear HQ0
        by_cases hlt : n < m
        · have hi1 : (n : Int) < (m : Int) := by omega
          have hi0 : (0 : Int) ≤ (n : Int) := by omega
          obtain ⟨old, hold⟩ := dC_get hR hlt
          have cQ := (HS.out.1.cell n).trans hold
          have lQ := HS.out.1.lt
          have fQ := HS.out.1.frozen n
          have hQ1 := dC_put HS.out.1 hR hlt (-1)
          have hb1 : Below Q W6 (wr.setCell ⟨Q, n, none⟩ (.int .i64 (-1))) := HS.out.2.2.setCell (p := ⟨Q, n, none⟩) (Nat.le_refl _) _
          obtain ⟨hBs, hsz⟩ := HD.out _ hb1
          have hcs := hBs.s.cell hlt
          have hls := hBs.s.s.lt
          have hnl : n < Ls.length := by rw [HLn.out]; exact hlt
          have hcn := (hBs.n.n.cell n).trans (lst_get (m := m) hnl)
          have hln := hBs.n.n.lt
          have hrow := hBs.n.r _ (List.getElem_mem hnl)
          have hnx := HLx.out n hnl
          unfold lstV at hcn
          generalize Ls[n] = y at hcn hrow hnx
          obtain ⟨F, cF, zs⟩ := y
          simp only at hcn hrow hnx
          subst hnx
          obtain ⟨old1, hold1⟩ := dC_at (R := R ++ [-1]) (m := m) (i := n) (by simp [hR]; omega) hlt
          have c1Q := (hQ1.cell n).trans hold1
          have l1Q := hQ1.lt
          have f1Q := hQ1.frozen n
          have HQ1 := Lib.hid hQ1
          have HB1 := Lib.hid hb1
          have HSp := Lib.hid HS.out.2.1
          have hR1 : ∀ z : Int, (R ++ [z]).length = n + 1 := fun z => by simp [hR]
          have HR := Lib.hid hR
          clear hold hold1 hQ1 hb1 hnl HS hR
          cases hlv : liveOf l l.length n with
          | false =>
            rw [hlv, if_neg (by simp)] at hcs
            have HS2 : Hid (Has (wr.setCell ⟨Q, n, none⟩ (.int .i64 (-1))) Q 3 (dC (R ++ [-1]) m) ∧ (∀ (i : Nat) (h : i < (R ++ [-1]).length), PostSpec (nextW ws) m i (R ++ [-1])[i]) ∧ Below Q W6 (wr.setCell ⟨Q, n, none⟩ (.int .i64 (-1)))) :=
              Lib.hid ⟨HQ1.out, posts_push HR.out HSp.out (post_dead (fun h => by rw [(HP.out.ll n).2 h] at hlv; cases hlv)), HB1.out⟩
            clear HQ1 HB1 HSp hBs hsz hrow hlv
            go_wp2
            go_roundw
            case rel => exact ⟨n + 1, _, by go_num, by omega, hR1 _, HS2⟩
            case measure => simp [intOf]; omega
          | true =>
            rw [hlv, if_pos rfl] at hcs
            by_cases hone : (nextW ws n).length = 1
            · obtain ⟨z, hz⟩ : ∃ z, nextW ws n = [z] := by
                rcases hnx : nextW ws n with _ | ⟨z, _ | ⟨y, r⟩⟩
                · rw [hnx] at hone; simp at hone
                · exact ⟨z, rfl⟩
                · rw [hnx] at hone; simp at hone
              have hcF := hrow.cell (i := 0) (by omega)
              have hlF := hrow.lt
              have e0 : (nextW ws n)[0]'(by omega) = z := by simp [hz]
              rw [e0] at hcF
              have HS2 : Hid (Has ((wr.setCell ⟨Q, n, none⟩ (.int .i64 (-1))).setCell ⟨Q, n, none⟩ (.int .i64 z)) Q 3 (dC (R ++ [z]) m) ∧ (∀ (i : Nat) (h : i < (R ++ [z]).length), PostSpec (nextW ws) m i (R ++ [z])[i]) ∧ Below Q W6 ((wr.setCell ⟨Q, n, none⟩ (.int .i64 (-1))).setCell ⟨Q, n, none⟩ (.int .i64 z))) :=
                Lib.hid ⟨dC_again HQ1.out HR.out hlt z, posts_push HR.out HSp.out (post_one HP.out hlv hz), HB1.out.setCell (p := ⟨Q, n, none⟩) (Nat.le_refl _) _⟩
              rw [hone] at hcn
              clear HQ1 HB1 HSp hBs hsz hrow hlv hz e0 hone
              go_wp2
              go_roundw
              case rel => exact ⟨n + 1, _, by go_num, by omega, hR1 _, HS2⟩
              case measure => simp [intOf]; omega
            · have hLm : ∀ q ∈ posOf 0 [ys n], q < m := by
                intro q hq
                obtain ⟨lw, hw⟩ := (HP.out.ll n).1 hlv
                exact way_in HNX.out hw q ((HCu.out n q hlv).1 ((fins_mem (HLt.out n hlv)).1 hq) lw hw)
              have hBrW := HBr.out _ hBs.b
              have HNe := Lib.hid (nearest_any n (Hf n) 1 w4.heap.size m m (ys n) (szL l m ys) (posOf 0 [ys n]) (wr.setCell ⟨Q, n, none⟩ (.int .i64 (-1))) hlt (hBs.s.e n hlt hlv).1 (HLt.out n hlv) hsz (sz_len l m ys) (sz_bound l m ys) rfl hLm hBrW.1 hBrW.2)
              have hps : PostSpec (nextW ws) m n (nearV n (szL l m ys) (posOf 0 [ys n])) := post_near HP.out hlv HCu.out HLt.out (fun q hq => sz_get (HP.out.lm q hq) (by simpa [liveOf] using hq))
              have hone1 : (((nextW ws n).length : Int) == 1) = false := by simp; omega
              have HPs := Lib.hid hps
              have hQW : Q ≤ (wr.setCell ⟨Q, n, none⟩ (.int .i64 (-1))).heap.size := Nat.le_of_lt l1Q
              generalize nearV n (szL l m ys) (posOf 0 [ys n]) = z at HNe HPs
              generalize (nextW ws n).length = q at hcn hone hone1
              clear hLm hBrW hps hsz hrow hBs hlv
              go_wp2_with fail
              refine HNe.out.mono ?_
              rintro e w9 ⟨rfl, hb9⟩
              have HQ9 := Lib.hid (HQ1.out.below hb9 HQ1.out.lt)
              have HB9 : Hid (Below Q W6 w9) := Lib.hid (HB1.out.trans (hb9.mono hQW))
              obtain ⟨old9, hold9⟩ := dC_at (R := R ++ [-1]) (m := m) (i := n) (by rw [hR1]; omega) hlt
              have c9 := (HQ9.out.cell n).trans hold9
              have l9 := HQ9.out.lt
              have f9 := HQ9.out.frozen n
              have HS2 : Hid (Has (w9.setCell ⟨Q, n, none⟩ (.int .i64 z)) Q 3 (dC (R ++ [z]) m) ∧ (∀ (i : Nat) (h : i < (R ++ [z]).length), PostSpec (nextW ws) m i (R ++ [z])[i]) ∧ Below Q W6 (w9.setCell ⟨Q, n, none⟩ (.int .i64 z))) :=
                Lib.hid ⟨dC_again HQ9.out HR.out hlt z, posts_push HR.out HSp.out HPs.out, HB9.out.setCell (p := ⟨Q, n, none⟩) (Nat.le_refl _) _⟩
              clear HNe HQ9 HB9 HQ1 HB1 HSp hb9 hold9 hcs hls hcn hln c1Q l1Q f1Q hone hone1 hQW cQ lQ fQ
              go_wp2
              go_roundw
              case rel => exact ⟨n + 1, _, by go_num, by omega, hR1 _, HS2⟩
              case measure => simp [intOf]; omega
        · have hnm : n = m := by omega
          subst hnm
          have HF : Hid (PostsIs w ws (.returned (.slice (some ⟨Q, 0, none⟩) n n)) wr) := Lib.hid (by
            have hB := (HD.out wr HS.out.2.2).1.b
            refine ⟨Q, R, by rw [HM.out], hwz, rowAt_dC HS.out.1 hR, by rw [HM.out]; exact hR, ?_, hB⟩
            rw [HM.out]
            exact HS.out.2.1)
          clear HS HD
          go_wp2
          go_ret
          exact HF.out
end FlowD
end Go.Proofs.YtajhkogknpmnbaaDoor
