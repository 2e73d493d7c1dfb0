/- The document's nearest place: what its searches tell. -/
import Derived.Test.YtajhkogknpmnbaaDoorFlowO
import Derived.Deep.RegionHeld3
import Derived.Deep.RegionWith
import Derived.Deep.DeepCutAuto
import Derived.BigQuiet
namespace Go.Proofs.YtajhkogknpmnbaaDoor
open Go.RowKit ObjM
namespace FlowD
open FlowM

variable {next : Nat → List Int} {m : Nat}
theorem nx_some (hN : Nx next m) {n k : Nat} : some k ∈ nxO next n ↔ (k : Int) ∈ next n := by
  unfold nxO
  rw [List.mem_map]
  constructor
  · rintro ⟨z, hz, he⟩
    rw [toO_some ((hN.r n z hz).imp id (·.1))] at he
    exact he ▸ hz
  · intro h
    exact ⟨_, h, (toO_some (.inr (by omega))).2 rfl⟩
theorem nx_none {n : Nat} : none ∈ nxO next n ↔ (-1 : Int) ∈ next n := mem_toO_none
/-- What is come to leads back to a way. -/
theorem come_way {n : Nat} {sh : Int} {y : Nat} (h : ComeS (next n) next sh y) : ∀ {l : List Nat}, FlowM.Way (nxO next) y l → (∀ x ∈ l, (x : Int) ≠ sh) → ∃ l2, FlowM.Way (nxO next) n (n :: l2) ∧ ∀ x ∈ l2, (x : Int) ≠ sh := by
  induction h with
  | first h1 h2 => exact fun hl hs => ⟨_, .step h1 hl, hs⟩
  | «then» _ h1 h2 ih =>
    rename_i x y hy
    intro l hl hs
    have hys : (y : Int) ≠ sh := by
      cases hy with
      | first _ h => exact of_decide_eq_false h
      | «then» _ _ h => exact of_decide_eq_false h
    exact ih (.step h1 hl) (by
      intro k hk
      rcases List.mem_cons.1 hk with rfl | hk
      · exact hys
      · exact hs k hk)
/-- A way that is not shut is gone. -/
theorem way_come {n : Nat} {sh : Int} : ∀ {l : List Nat} {y : Nat}, FlowM.Way (nxO next) y l → (∀ x ∈ l, (x : Int) ≠ sh) → (y = n ∨ ComeS (next n) next sh y) → SrcS (next n) next sh (-1) := by
  intro l y hl
  induction hl with
  | stop h =>
    intro hs hy
    rcases hy with rfl | hy
    · exact .inl (nx_none.1 h)
    · exact .inr ⟨_, hy, nx_none.1 h⟩
  | step h h2 ih =>
    rename_i y k l
    intro hs hy
    have hk : (k : Int) ≠ sh := by
      obtain ⟨r, rfl⟩ := way_head h2
      exact hs k (by simp)
    refine ih (fun x hx => hs x (List.mem_cons_of_mem _ hx)) (.inr ?_)
    rcases hy with rfl | hy
    · exact .first h (decide_eq_false hk)
    · exact .then hy h (decide_eq_false hk)
theorem src_live {n : Nat} {sh : Int} (hs : sh < -1) : SrcS (next n) next sh (-1) ↔ Live (nxO next) n := by
  have hne : ∀ x : Nat, (x : Int) ≠ sh := fun x => by omega
  constructor
  · rintro (h | ⟨y, h, h2⟩)
    · exact ⟨_, .stop (nx_none.2 h)⟩
    · obtain ⟨l2, h3, _⟩ := come_way h (.stop (nx_none.2 h2)) (fun x _ => hne x)
      exact ⟨_, h3⟩
  · rintro ⟨l, hl⟩
    exact way_come hl (fun x _ => hne x) (.inl rfl)
theorem src_cut {n q : Nat} (hq : q ≠ n) : ¬ SrcS (next n) next (q : Int) (-1) ↔ Cut (nxO next) n q := by
  constructor
  · intro h l hl
    apply Classical.byContradiction
    intro hm
    refine h (way_come hl (fun x hx e => hm ?_) (.inl rfl))
    have : x = q := by omega
    exact this ▸ hx
  · intro h hs
    rcases hs with h1 | ⟨y, h1, h2⟩
    · have := h _ (.stop (nx_none.2 h1))
      simp at this
      exact hq this
    · have hyq : (y : Int) ≠ (q : Int) := by
        cases h1 with
        | first _ h => exact of_decide_eq_false h
        | «then» _ _ h => exact of_decide_eq_false h
      obtain ⟨l2, h3, h4⟩ := come_way h1 (.stop (nx_none.2 h2)) (fun x hx => by simp at hx; subst hx; exact hyq)
      rcases List.mem_cons.1 (h _ h3) with h5 | h5
      · exact hq h5
      · exact h4 q h5 rfl
theorem come_goes {n q k : Nat} (hqn : q ≠ n) (hkn : k ≠ n) : ComeS (next n) next (q : Int) k ↔ Goes (nxO next) q n k := by
  have e : (fun x : Nat => decide ((x : Int) = (q : Int))) = fun x => x == q := by
    funext x
    rw [Bool.eq_iff_iff, decide_eq_true_eq, beq_iff_eq]
    omega
  unfold ComeS
  rw [e]
  exact (goes_come (next := nxO next) hkn (Ne.symm hqn)).symm
/-- The test for the nearest: nothing else that each way has is come to without it. -/
theorem near_test {n p : Nat} {R : List Int} (hl : Live (nxO next) n) (hpn : p ≠ n) (hc : Cut (nxO next) n p) (hR : ∀ x : Nat, (x : Int) ∈ R ↔ x ≠ n ∧ Cut (nxO next) n x) (hpos : ∀ z ∈ R, 0 ≤ z) : Near next n p ↔ ∀ z ∈ R, z = (p : Int) ∨ ¬ ComeS (next n) next (p : Int) z.toNat := by
  have h := nearest_iff hl hc
  unfold Near
  rw [h]
  constructor
  · rintro (h1 | h1)
    · intro z hz
      obtain ⟨x, rfl⟩ := Int.eq_ofNat_of_zero_le (hpos z hz)
      obtain ⟨h2, h3⟩ := (hR x).1 hz
      by_cases e : x = p
      · exact .inl (by rw [e])
      · refine .inr fun hcs => h1 x h2 e h3 ?_
        rw [Int.toNat_natCast] at hcs
        exact (come_goes hpn h2).1 hcs
    · exact absurd h1 hpn
  · intro h1
    refine .inl fun q hq1 hq2 hq3 hg => ?_
    rcases h1 (q : Int) ((hR q).2 ⟨hq1, hq3⟩) with h2 | h2
    · omega
    · rw [Int.toNat_natCast] at h2
      exact h2 ((come_goes hpn hq1).2 hg)
end FlowD
end Go.Proofs.YtajhkogknpmnbaaDoor
namespace Go.Proofs.YtajhkogknpmnbaaDoor
open Go.RowKit ObjM
namespace FlowD
open FlowM InstrM InstrD

/-- What the search says of the end. -/
theorem reach_end {w w' : World} {start : List Int} {next : Nat → List Int} {m : Nat} {sh : Int} {e : Ending} (h : ReachIs w start next m sh e w') : ∃ O be, e = .returned (.slice (some ⟨O, 0, none⟩) (m + 1) (m + 1)) ∧ w'.cell? ⟨O, m, none⟩ = some (.bool be) ∧ O < w'.heap.size ∧ (be = true ↔ SrcS start next sh (-1)) ∧ Below w.heap.size w w' := by
  obtain ⟨O, bs, be, h1, h2, h3, h4, h5, h6, h7⟩ := h
  exact ⟨O, be, h1, (h3.cell m).trans out_end, h3.lt, h5, h7⟩
/-- Those of the first j places that each way from n has. -/
def AllS (next : Nat → List Int) (w0 wr : World) (n m j : Nat) (v : Value) : Prop := ∃ R : List Int, wr.ownsRow w0.heap.size 3 1 v R.length (R.map (Value.int .i64)) ∧ (∀ x : Nat, (x : Int) ∈ R ↔ x < j ∧ x ≠ n ∧ Cut (nxO next) n x) ∧ (∀ z ∈ R, 0 ≤ z ∧ z < m) ∧ R.length ≤ j ∧ Below w0.heap.size w0 wr
theorem alls_start {next : Nat → List Int} {w0 : World} {n m : Nat} : AllS next w0 w0 n m 0 (.slice none 0 0) := ⟨[], World.ownsRow_nil _ _ _ _, by simp, by simp, by simp, Below.refl _ _⟩
theorem AllS.skip {next : Nat → List Int} {w0 wr w' : World} {n m j : Nat} {v : Value} (h : AllS next w0 wr n m j v) (hb : Below wr.heap.size wr w') (hj : j = n ∨ ¬ Cut (nxO next) n j) : AllS next w0 w' n m (j + 1) v := by
  obtain ⟨R, h1, h2, h3, h4, h5⟩ := h
  refine ⟨R, own_keeps h1 (Keeps.below' hb []) (fun g hg => by simp), fun x => ?_, h3, by omega, h5.trans (hb.mono h5.size)⟩
  rw [h2 x]
  constructor
  · rintro ⟨g1, g2, g3⟩
    exact ⟨by omega, g2, g3⟩
  · rintro ⟨g1, g2, g3⟩
    refine ⟨?_, g2, g3⟩
    apply Nat.lt_of_not_le
    intro hle
    have : x = j := by omega
    subst this
    rcases hj with hj | hj
    · exact g2 hj
    · exact hj g3
theorem AllS.shape {next : Nat → List Int} {w0 wr : World} {n m j : Nat} {v : Value} (h : AllS next w0 wr n m j v) : (∃ a k c, v = .slice a k c) ∧ Below w0.heap.size w0 wr := by
  obtain ⟨R, h1, _, _, _, h5⟩ := h
  exact ⟨own_slice_of h1, h5⟩
theorem AllS.push {next : Nat → List Int} {w0 wr w' : World} {n m j : Nat} {v : Value} (h : AllS next w0 wr n m j v) (hb : Below wr.heap.size wr w') (hj : j ≠ n) (hc : Cut (nxO next) n j) (hjm : j < m) (hm : m ≤ 64) :
    ∃ v2 W2, (Builtin.append_ #[26, 26] 26 #[v, .slice (some ⟨w'.heap.size, 0, none⟩) 1 1]).run Tryd.prog (w'.alloc (.cells #[.int .i64 (j : Int)] 3)) = .ok v2 W2 ∧ Hid (AllS next w0 W2 n m (j + 1) v2) := by
  obtain ⟨R, h1, h2, h3, h4, h5⟩ := h
  have k : Keeps [] wr (w'.alloc (.cells #[.int .i64 (j : Int)] 3)) := (Keeps.below' hb []).trans (Keeps.alloc [] w' _) (by simp)
  have ho := own_keeps h1 k (fun g hg => by simp)
  have hb0 := h5.trans (k.toBelow w0.heap.size h5.size (by simp))
  obtain ⟨v2, W2, hrun, hown, hg, hv⟩ := app_int 26 (W := w'.alloc (.cells #[.int .i64 (j : Int)] 3)) (j : Int) ho (by omega) hb0.size w'.heap.size 1 ((Has.new w' 3 [.int .i64 (j : Int)]).cell 0)
  refine ⟨v2, W2, hrun, Lib.hid ⟨R ++ [(j : Int)], hown, fun x => ?_, ?_, by simp; omega, hb0.grown hg hb0.size (fun g hg' => (own_lt ho g hg').1)⟩⟩
  · rw [List.mem_append, h2 x, List.mem_singleton]
    constructor
    · rintro (⟨g1, g2, g3⟩ | g1)
      · exact ⟨by omega, g2, g3⟩
      · have : x = j := by omega
        subst this
        exact ⟨by omega, hj, hc⟩
    · rintro ⟨g1, g2, g3⟩
      by_cases e : x = j
      · exact .inr (by omega)
      · exact .inl ⟨by omega, g2, g3⟩
  · intro z hz
    rcases List.mem_append.1 hz with g1 | g1
    · exact h3 z g1
    · simp at g1
      omega
set_option maxRecDepth 100000 in
set_option maxHeartbeats 16000000 in
theorem refPost_any (p : PrV) (ws : List Nat) (n : Nat) (w : World) (hw : WordsAt w p ws) (h64 : ws.length ≤ 64) (hn : n < ws.length) :
    Calls Tryd.prog 30 #[p.agg, .int .i64 (n : Int)] w fun e w' => ∃ z, e = .returned (.int .i64 z) ∧ PostSpec (nextW ws) ws.length n z ∧ Below w.heap.size w w' := by
  obtain ⟨a0, n0, c0, rg, wa, wn, wk, a3, n3, c3, a4, n4, c4, a5, n5, c5⟩ := p
  obtain rfl : wn = ws.length := hw.len
  obtain ⟨hx, hb⟩ := pr_box w ⟨a0, n0, c0, rg, wa, ws.length, wk, a3, n3, c3, a4, n4, c4, a5, n5, c5⟩
  simp only [PrV.cells] at hx hb
  have HNe := Lib.hid (refNext_any ⟨a0, n0, c0, rg, wa, ws.length, wk, a3, n3, c3, a4, n4, c4, a5, n5, c5⟩ ws (n : Int) _ (hw.below hb) (by omega))
  have HRe := Lib.hid (fun (sh : Int) (F cF : Nat) (W : World) (hW : Below w.heap.size w W) (hF : RowAt W F (nextW ws n)) (hl : 1 ≤ (nextW ws n).length) (hsh : sh ≠ -1) => reach_any ⟨a0, n0, c0, rg, wa, ws.length, wk, a3, n3, c3, a4, n4, c4, a5, n5, c5⟩ ws (nextW ws n) sh F cF W (hw.below hW) h64 hF ⟨hl, by have := (nx_of ws).l n; omega⟩ ((nx_of ws).r n) hsh)
  simp only [PrV.agg] at HNe HRe
  have HNX := Lib.hid (nx_of ws)
  have HNn := Lib.hid (nextV_ne hn)
  obtain ⟨m, hm⟩ : ∃ m, ws.length = m := ⟨_, rfl⟩
  unfold PrV.agg
  simp only
  rw [hm] at h64 hn HNX hx hb HNe HRe ⊢
  obtain ⟨w1, hw1⟩ : ∃ w1, w.alloc (.cells #[.slice a0 n0 c0, .int .i64 rg, .slice wa m wk, .slice a3 n3 c3, .slice a4 n4 c4, .slice a5 n5 c5] 28) = w1 := ⟨_, rfl⟩
  have hsz1 : w1.heap.size = w.heap.size + 1 := by rw [← hw1]; simp
  rw [hw1] at hx hb HNe
  have HX : Hid (∀ W, Below (w.heap.size + 1) w1 W → (W.cell? ⟨w.heap.size, 0, none⟩ = some (.slice a0 n0 c0) ∧ W.cell? ⟨w.heap.size, 1, none⟩ = some (.int .i64 rg) ∧ W.cell? ⟨w.heap.size, 2, none⟩ = some (.slice wa m wk) ∧ W.cell? ⟨w.heap.size, 3, none⟩ = some (.slice a3 n3 c3) ∧ W.cell? ⟨w.heap.size, 4, none⟩ = some (.slice a4 n4 c4) ∧ W.cell? ⟨w.heap.size, 5, none⟩ = some (.slice a5 n5 c5)) ∧ w.heap.size < W.heap.size ∧ Below w.heap.size w W ∧ w.heap.size + 1 ≤ W.heap.size) := Lib.hid (fun W hW => by
    have g := hx.below hW (by omega)
    exact ⟨⟨g.cell 0, g.cell 1, g.cell 2, g.cell 3, g.cell 4, g.cell 5⟩, g.lt, hb.trans (hW.mono (by omega)), g.lt⟩)
  have HB1 : Hid (Below (w.heap.size + 1) w1 w1) := Lib.hid (Below.refl _ _)
  have HW1 := Lib.hid hw1
  obtain ⟨⟨x0, x1, x2, x3, x4, x5⟩, lx, -⟩ := HX.out _ (Below.refl _ w1)
  have HS1 := Lib.hid hsz1
  rw [← hw1] at x0 x1 x2 x3 x4 x5 lx HNe
  clear hx hb hw hm hw1 hsz1
  go_enter Tryd.func30, Tryd.ntmps30
  go_wp2_with fail
  refine HNe.out.mono ?_
  rintro e w2 ⟨v, rfl, ho, hb2⟩
  rw [HW1.out] at ho hb2
  rcases row_of_own ho with ⟨h9, _⟩ | ⟨F, cF, rfl, hg, hrow⟩
  · exact absurd h9 HNn.out
  have HB2 : Hid (Below (w.heap.size + 1) w1 w2) := Lib.hid (hb2.mono (by rw [HS1.out]; exact Nat.le_refl _))
  have HRow : Hid (∀ W, Below w2.heap.size w2 W → RowAt W F (nextW ws n)) := Lib.hid fun W hW => hrow.below hW hrow.lt
  have hl1 : 1 ≤ (nextW ws n).length := by
    rcases e : nextW ws n with _ | ⟨z, r⟩
    · exact absurd e HNn.out
    · simp
  have HC : Hid (∀ (sh : Int) (W : World), sh ≠ -1 → Below w2.heap.size w2 W → Calls Tryd.prog 34 #[.agg #[.slice a0 n0 c0, .int .i64 rg, .slice wa m wk, .slice a3 n3 c3, .slice a4 n4 c4, .slice a5 n5 c5], .slice (some ⟨F, 0, none⟩) (nextW ws n).length cF, .int .i64 sh] W (ReachIs W (nextW ws n) (nextW ws) m sh)) := Lib.hid fun sh W hsh hW =>
    HRe.out sh F cF W ((HX.out _ (HB2.out.trans (hW.mono (HX.out _ HB2.out).2.2.2))).2.2.1) (HRow.out W hW) hl1 hsh
  have HY : Hid (∀ W, Below w2.heap.size w2 W → (W.cell? ⟨w.heap.size, 0, none⟩ = some (.slice a0 n0 c0) ∧ W.cell? ⟨w.heap.size, 1, none⟩ = some (.int .i64 rg) ∧ W.cell? ⟨w.heap.size, 2, none⟩ = some (.slice wa m wk) ∧ W.cell? ⟨w.heap.size, 3, none⟩ = some (.slice a3 n3 c3) ∧ W.cell? ⟨w.heap.size, 4, none⟩ = some (.slice a4 n4 c4) ∧ W.cell? ⟨w.heap.size, 5, none⟩ = some (.slice a5 n5 c5)) ∧ w.heap.size < W.heap.size ∧ Below w.heap.size w W) := Lib.hid fun W hW => by
    obtain ⟨h1, h2, h3, _⟩ := HX.out _ (HB2.out.trans (hW.mono (HX.out _ HB2.out).2.2.2))
    exact ⟨h1, h2, h3⟩
  have HB0 := Lib.hid (Below.refl w2.heap.size w2)
  obtain ⟨⟨y0, y1, y2, y3, y4, y5⟩, ly, -⟩ := HY.out _ HB0.out
  have hmi : (m : Int) < (m : Int) + 1 := by omega
  have hm0 : (0 : Int) ≤ (m : Int) := by omega
  clear HNe HRe HRow HX HB1 HW1 HB2 ho hb2 hg hrow x0 x1 x2 x3 x4 x5 lx
  have hne : nextV ws (n : Int) = nextW ws n := rfl
  rw [hne]
  obtain ⟨q, hq⟩ : ∃ q, (nextW ws n).length = q := ⟨_, rfl⟩
  rw [hq] at HC ⊢
  clear hq hne hl1
  go_wp2
  obtain ⟨⟨d0, d1, d2, d3, d4, d5⟩, ld, -⟩ := HY.out w2.drew (HB0.out.drew)
  go_cut [25] (fun b wx => ∃ be : Bool, b = .bool (!be) ∧ Hid ((be = true ↔ SrcS (nextW ws n) (nextW ws) (-2) (-1)) ∧ Below w2.heap.size w2 wx))
  case first =>
    first
      | (go_region_with (go_at_call 34
                         refine (HC.out _ _ (by decide) (by repeat (first | exact Below.refl _ _ | assumption | refine Below.drew ?_))).mono ?_
                         intro e w5 hre
                         obtain ⟨O5, be, rfl, cO5, lO5, hbe, hb5⟩ := reach_end hre
                         have hb6 : Below w2.heap.size w2 w5 := below_n (by repeat (first | exact Below.refl _ _ | assumption | refine Below.drew ?_)) hb5 (by simp)
                         obtain ⟨⟨v0, v1, v2, v3, v4, v5⟩, lv, -⟩ := HY.out _ hb6))
      | fail
    all_goals
      go_wp2_with fail
      go_meet
      exact ⟨be, rfl, Lib.hid ⟨hbe, hb6⟩⟩
  case rest =>
    obtain ⟨be, rfl, HD⟩ := hcut
    obtain ⟨W0, rfl⟩ : ∃ W0, W0 = wc := ⟨_, rfl⟩
    have HNd : Hid (∀ W, Below W0.heap.size W0 W → (W.cell? ⟨w.heap.size, 0, none⟩ = some (.slice a0 n0 c0) ∧ W.cell? ⟨w.heap.size, 1, none⟩ = some (.int .i64 rg) ∧ W.cell? ⟨w.heap.size, 2, none⟩ = some (.slice wa m wk) ∧ W.cell? ⟨w.heap.size, 3, none⟩ = some (.slice a3 n3 c3) ∧ W.cell? ⟨w.heap.size, 4, none⟩ = some (.slice a4 n4 c4) ∧ W.cell? ⟨w.heap.size, 5, none⟩ = some (.slice a5 n5 c5)) ∧ w.heap.size < W.heap.size ∧ Below w2.heap.size w2 W) := Lib.hid fun W hW => by
      have h := HD.out.2.trans (hW.mono HD.out.2.size)
      obtain ⟨h1, h2, _⟩ := HY.out W h
      exact ⟨h1, h2, h⟩
    have HBw := Lib.hid (HY.out W0 HD.out.2).2.2
    have hlive := HD.out.1.trans (src_live (next := nextW ws) (n := n) (sh := -2) (by omega))
    cases be with
    | false =>
      have HF : Hid (PostSpec (nextW ws) m n (-1)) := Lib.hid (post_dead (fun h => by have := hlive.2 h; cases this))
      clear hlive HD HC HY
      go_wp2
      go_ret
      exact ⟨-1, rfl, HF.out, HBw.out⟩
    | true =>
      have HLv := Lib.hid (hlive.1 rfl)
      obtain ⟨⟨z0, z1, z2, z3, z4, z5⟩, lz, -⟩ := HNd.out W0 (Below.refl _ _)
      clear hlive
      have HA0 : Hid (AllS (nextW ws) W0 W0 n m 0 (.slice none 0 0)) := Lib.hid alls_start
      clear HB0 y0 y1 y2 y3 y4 y5 ly d0 d1 d2 d3 d4 d5 ld HD
      go_wp2
      go_loopg [29, 6] m (fun k i sv wr => ∃ (j : Nat) (v : Value), i = .int .i64 (j : Int) ∧ v = sv ∧ j ≤ m ∧ k + j = m ∧ Hid (AllS (nextW ws) W0 wr n m j v))
      case atStart => exact ⟨0, _, rfl, rfl, by omega, by omega, HA0⟩
      case round =>
        obtain ⟨j, v, rfl, rfl, hj, hk, HS⟩ := hrel
        clear HA0 z0 z1 z2 z3 z4 z5 lz
        obtain ⟨⟨z0, z1, z2, z3, z4, z5⟩, lz, hW2⟩ := HNd.out wr HS.out.shape.2
        have HW2 := Lib.hid hW2
        clear hW2
        obtain ⟨⟨va, vk, vc, rfl⟩, -⟩ := HS.out.shape
        by_cases hlt : j < m
        · have hi1 : (j : Int) < (m : Int) := by omega
          have hi0 : (0 : Int) ≤ (j : Int) := by omega
          by_cases hjn : j = n
          · have hjb : ((j : Int) != (n : Int)) = false := by simp [hjn]
            have HE : Hid (∀ q, AllS (nextW ws) W0 (wr.drewN q) n m (j + 1) (.slice va vk vc)) := Lib.hid fun q => HS.out.skip ((Keeps.drewN [] wr q).toBelow _ (Nat.le_refl _) (by simp)) (.inl hjn)
            clear hjn HS
            go_wp2
            go_quiet (fail)
            go_wp2
            go_roundg (gk - 1)
            case measure => omega
            case rel => exact ⟨j + 1, _, by go_num, rfl, by omega, by omega, Lib.hid (HE.out _)⟩
          · have hjb : ((j : Int) != (n : Int)) = true := by simp; omega
            have hcut := src_cut (next := nextW ws) (n := n) (q := j) hjn
            have HCj := Lib.hid (fun (W : World) (hW : Below wr.heap.size wr W) => HC.out (j : Int) W (by omega) (HW2.out.trans (hW.mono HW2.out.size)))
            obtain ⟨⟨d0, d1, d2, d3, d4, d5⟩, ld, -⟩ := HNd.out wr.drew (HS.out.shape.2.drew)
            have HNr : Hid (∀ W, Below wr.heap.size wr W → (W.cell? ⟨w.heap.size, 0, none⟩ = some (.slice a0 n0 c0) ∧ W.cell? ⟨w.heap.size, 1, none⟩ = some (.int .i64 rg) ∧ W.cell? ⟨w.heap.size, 2, none⟩ = some (.slice wa m wk) ∧ W.cell? ⟨w.heap.size, 3, none⟩ = some (.slice a3 n3 c3) ∧ W.cell? ⟨w.heap.size, 4, none⟩ = some (.slice a4 n4 c4) ∧ W.cell? ⟨w.heap.size, 5, none⟩ = some (.slice a5 n5 c5)) ∧ w.heap.size < W.heap.size) := Lib.hid fun W hW => by
              have h := HS.out.shape.2.trans (hW.mono HS.out.shape.2.size)
              obtain ⟨h1, h2, _⟩ := HNd.out W h
              exact ⟨h1, h2⟩
            have HCut := Lib.hid hcut
            have HJn := Lib.hid hjn
            have hb0 := Below.refl wr.heap.size wr
            clear hcut hjn
            go_wp2
            go_cut [46] (fun b wx => ∃ be : Bool, b = .bool (!be) ∧ Hid ((be = true ↔ SrcS (nextW ws n) (nextW ws) (j : Int) (-1)) ∧ Below wr.heap.size wr wx))
            case first =>
              first
                | (go_region_with (go_at_call 34
                                   refine (HCj.out _ (by repeat (first | exact Below.refl _ _ | assumption | refine Below.drew ?_))).mono ?_
                                   intro e w5 hre
                                   obtain ⟨O5, be, rfl, cO5, lO5, hbe, hb5⟩ := reach_end hre
                                   have hb6 : Below wr.heap.size wr w5 := below_n (by repeat (first | exact Below.refl _ _ | assumption | refine Below.drew ?_)) hb5 (by simp)
                                   obtain ⟨⟨v0, v1, v2, v3, v4, v5⟩, lv⟩ := HNr.out _ hb6))
                | fail
              all_goals
                go_wp2_with fail
                go_meet
                exact ⟨be, rfl, Lib.hid ⟨hbe, hb6⟩⟩
            case rest =>
              obtain ⟨be, rfl, HD⟩ := hcut
              cases be with
              | true =>
                have HE : Hid (AllS (nextW ws) W0 wc n m (j + 1) (.slice va vk vc)) := Lib.hid (HS.out.skip HD.out.2 (.inr (fun h => HCut.out.2 h (HD.out.1.1 rfl))))
                clear HCj HS HD
                go_wp2
                go_roundg (gk - 1)
                case measure => omega
                case rel => exact ⟨j + 1, _, by go_num, rfl, by omega, by omega, HE⟩
              | false =>
                obtain ⟨v7, w7, hrun7, HS7⟩ := HS.out.push HD.out.2 HJn.out (HCut.out.1 (fun h => by have := HD.out.1.2 h; cases this)) hlt h64
                have HRun7 := Lib.hid hrun7
                clear HCj HS HD hrun7
                go_wp2_with (at_builtin; refine wpList_append_run (by rfl) (.tmp 47) (.tmp 49) 26 rfl _ _ _ _ rfl rfl HRun7.out ?_)
                go_roundg (gk - 1)
                case measure => omega
                case rel => exact ⟨j + 1, _, by go_num, rfl, by omega, by omega, HS7⟩
        · have hjm : j = m := by omega
          subst hjm
          obtain ⟨R, hown, hmem, hpos, hlen, hbW⟩ := HS.out
          obtain ⟨hkl, hRo⟩ : vk = R.length ∧ (R ≠ [] → ∃ g, va = some ⟨g, 0, none⟩ ∧ RowAt wr g R) := by
            rcases row_of_own hown with ⟨g1, g2⟩ | ⟨g, cap, g2, _, g3⟩
            · injection g2 with e1 e2 e3
              exact ⟨by rw [e2, g1]; rfl, fun h => absurd g1 h⟩
            · injection g2 with e1 e2 e3
              exact ⟨e2, fun _ => ⟨g, e1, g3⟩⟩
          subst hkl
          obtain ⟨W3, rfl⟩ : ∃ W3, W3 = wr := ⟨_, rfl⟩
          have HMem : Hid (∀ x : Nat, (x : Int) ∈ R ↔ x ≠ n ∧ Cut (nxO (nextW ws)) n x) := Lib.hid fun x => by
            rw [hmem x]
            constructor
            · exact fun h => h.2
            · rintro ⟨g2, g3⟩
              refine ⟨?_, g2, g3⟩
              obtain ⟨lw, hlw⟩ := HLv.out
              exact way_in HNX.out hlw x (g3 lw hlw)
          have HPos := Lib.hid hpos
          have HRo : Hid (∀ W, Below W3.heap.size W3 W → R ≠ [] → ∃ g, va = some ⟨g, 0, none⟩ ∧ RowAt W g R) := Lib.hid fun W hW h => by
            obtain ⟨g, g1, g2⟩ := hRo h
            exact ⟨g, g1, g2.below hW g2.lt⟩
          have HWW : Hid (∀ W, Below W3.heap.size W3 W → Below w2.heap.size w2 W) := Lib.hid fun W hW => HW2.out.trans (hW.mono HW2.out.size)
          have HBB : Hid (∀ W, Below W3.heap.size W3 W → Below w.heap.size w W) := Lib.hid fun W hW => (HY.out W (HWW.out W hW)).2.2
          have HBX : Hid (∀ W, Below W3.heap.size W3 W → W.cell? ⟨w.heap.size, 0, none⟩ = some (.slice a0 n0 c0) ∧ W.cell? ⟨w.heap.size, 1, none⟩ = some (.int .i64 rg) ∧ W.cell? ⟨w.heap.size, 2, none⟩ = some (.slice wa j wk) ∧ W.cell? ⟨w.heap.size, 3, none⟩ = some (.slice a3 n3 c3) ∧ W.cell? ⟨w.heap.size, 4, none⟩ = some (.slice a4 n4 c4) ∧ W.cell? ⟨w.heap.size, 5, none⟩ = some (.slice a5 n5 c5) ∧ w.heap.size < W.heap.size) := Lib.hid fun W hW => by
            obtain ⟨⟨g0, g1, g2, g3, g4, g5⟩, g6, _⟩ := HY.out W (HWW.out W hW)
            exact ⟨g0, g1, g2, g3, g4, g5, g6⟩
          have HB3 := Lib.hid (Below.refl W3.heap.size W3)
          have hlen64 : R.length ≤ 64 := by omega
          clear hown hmem hpos hlen hbW hRo HS HNd HBw HY HW2 z0 z1 z2 z3 z4 z5 lz hlt hj hk
          obtain ⟨L, hL⟩ : ∃ L, R.length = L := ⟨_, rfl⟩
          have HL := Lib.hid hL
          rw [hL] at hlen64 ⊢
          clear hL
          go_wp2
          go_loopg [54] L (fun k i wr => ∃ (c : Nat), i = .int .i64 (c : Int) ∧ c ≤ L ∧ k + c = L ∧ Hid ((∀ (i : Nat) (h : i < R.length), i < c → ¬ Near (nextW ws) n (R[i]).toNat) ∧ Below W3.heap.size W3 wr))
          case atStart => exact ⟨0, rfl, by omega, by omega, Lib.hid ⟨fun i h h2 => by omega, HB3.out⟩⟩
          case round =>
            obtain ⟨c, rfl, hc, hk, HS⟩ := hrel
            by_cases hlt : c < L
            · have hc1 : (c : Int) < (L : Int) := by omega
              have hc0 : (0 : Int) ≤ (c : Int) := by omega
              have hcl : c < R.length := by rw [HL.out]; exact hlt
              obtain ⟨g, hvg, hrow⟩ := HRo.out wr HS.out.2 (by intro e; rw [e] at hcl; simp at hcl)
              have hcc := hrow.cell hcl
              have hgl := hrow.lt
              have hzp := HPos.out _ (List.getElem_mem hcl)
              have hzm : R[c] ∈ R := List.getElem_mem hcl
              obtain ⟨z, hz⟩ : ∃ z, R[c] = z := ⟨_, rfl⟩
              have HZ := Lib.hid hz
              rw [hz] at hcc hzp hzm
              obtain ⟨p, rfl⟩ := Int.eq_ofNat_of_zero_le hzp.1
              have hpj : p < j := by omega
              obtain ⟨hpn, hpc⟩ := (HMem.out p).1 hzm
              have HNt := Lib.hid (near_test HLv.out hpn hpc HMem.out (fun z hz => (HPos.out z hz).1))
              have HRe := Lib.hid (HC.out (p : Int) wr (by omega) (HWW.out wr HS.out.2))
              obtain ⟨b0, b1, b2, b3, b4, b5, bl⟩ := HBX.out wr HS.out.2
              have HPn := Lib.hid hpn
              have HPc := Lib.hid hpc
              clear hz hrow hzm hpn hpc
              subst hvg
              go_wp2_with fail
              refine HRe.out.mono ?_
              rintro e w6 ⟨O, bs, be, rfl, hO, hH, hcom, hend, hin, hb6⟩
              have hW6 : Below W3.heap.size W3 w6 := HS.out.2.trans (hb6.mono HS.out.2.size)
              obtain ⟨g', hg', hrow6⟩ := HRo.out w6 hW6 (by intro e; rw [e] at hcl; simp at hcl)
              injection hg' with hg'
              injection hg' with hg'
              subst hg'
              have HR6 := Lib.hid hrow6
              have HH := Lib.hid hH
              have HCm := Lib.hid hcom
              have HW6 := Lib.hid hW6
              clear HRe b0 b1 b2 b3 b4 b5 bl hcc hgl hO hH hcom hend hin hb6 hW6 hrow6
              go_wp2
              go_loopg [64, 10] L (fun k i fv wr => ∃ (d : Nat) (fr : Bool), i = .int .i64 (d : Int) ∧ fv = .bool fr ∧ d ≤ L ∧ k + d = L ∧ w6 = wr ∧ Hid (fr = true ↔ ∀ (i : Nat) (h : i < R.length), i < d → R[i] = (p : Int) ∨ bs (R[i]).toNat = false))
              case atStart => exact ⟨0, true, rfl, rfl, by omega, by omega, rfl, Lib.hid ⟨fun _ i h h2 => by omega, fun _ => rfl⟩⟩
              case round =>
                obtain ⟨d, fr, rfl, rfl, hd, hkd, rfl, HFr⟩ := hrel
                by_cases hdl : d < L
                · have hd1 : (d : Int) < (L : Int) := by omega
                  have hd0 : (0 : Int) ≤ (d : Int) := by omega
                  have hdR : d < R.length := by rw [HL.out]; exact hdl
                  have hcd := HR6.out.cell hdR
                  have hgl := HR6.out.lt
                  have hyp := HPos.out _ (List.getElem_mem hdR)
                  obtain ⟨y, hy⟩ : ∃ y, R[d] = y := ⟨_, rfl⟩
                  have HY9 := Lib.hid hy
                  rw [hy] at hcd hyp
                  obtain ⟨r, rfl⟩ := Int.eq_ofNat_of_zero_le hyp.1
                  have hrj : r < j := by omega
                  have hr1 : (r : Int) < (j : Int) + 1 := by omega
                  have hr0 : (0 : Int) ≤ (r : Int) := by omega
                  have hcO := (HH.out.cell r).trans (out_get hrj)
                  have hlO := HH.out.lt
                  have HSt : Hid (∀ fr2 : Bool, (fr2 = true ↔ fr = true ∧ ((r : Int) = (p : Int) ∨ bs r = false)) → (fr2 = true ↔ ∀ (i : Nat) (h : i < R.length), i < d + 1 → R[i] = (p : Int) ∨ bs (R[i]).toNat = false)) := Lib.hid (by
                    intro fr2 hf
                    rw [hf, HFr.out]
                    constructor
                    · rintro ⟨g1, g2⟩ i h hid
                      by_cases e : i = d
                      · subst e
                        rw [HY9.out, Int.toNat_natCast]
                        exact g2
                      · exact g1 i h (by omega)
                    · intro g
                      refine ⟨fun i h hid => g i h (by omega), ?_⟩
                      have := g d hdR (by omega)
                      rwa [HY9.out, Int.toNat_natCast] at this)
                  clear hy
                  by_cases hrp : (r : Int) = (p : Int)
                  · have hrb : ((r : Int) != (p : Int)) = false := by simp [hrp]
                    have HE := Lib.hid (HSt.out fr ⟨fun h => ⟨h, .inl hrp⟩, fun h => h.1⟩)
                    clear HSt hrp
                    go_wp2
                    go_roundg (gk - 1)
                    case measure => omega
                    case rel => exact ⟨d + 1, fr, by go_num, rfl, by omega, by omega, rfl, HE⟩
                  · have hrb : ((r : Int) != (p : Int)) = true := by simpa using hrp
                    cases hbr : bs r with
                    | false =>
                      rw [hbr] at hcO
                      have HE := Lib.hid (HSt.out fr ⟨fun h => ⟨h, .inr hbr⟩, fun h => h.1⟩)
                      clear HSt hrp hbr
                      go_wp2
                      go_roundg (gk - 1)
                      case measure => omega
                      case rel => exact ⟨d + 1, fr, by go_num, rfl, by omega, by omega, rfl, HE⟩
                    | true =>
                      rw [hbr] at hcO
                      have HE := Lib.hid (HSt.out false ⟨fun h => (by cases h), fun h => (by rcases h.2 with h | h; exact absurd h hrp; rw [hbr] at h; cases h)⟩)
                      clear HSt hrp hbr
                      go_wp2
                      go_roundg (gk - 1)
                      case measure => omega
                      case rel => exact ⟨d + 1, false, by go_num, rfl, by omega, by omega, rfl, HE⟩
                · have hdL : d = L := by omega
                  subst hdL
                  have HNear : Hid (fr = true ↔ Near (nextW ws) n p) := Lib.hid (by
                    rw [HFr.out, HNt.out]
                    constructor
                    · intro h z hz
                      obtain ⟨i, hi, hiz⟩ := List.getElem_of_mem hz
                      subst hiz
                      have hp := HPos.out _ (List.getElem_mem hi)
                      rcases h i hi (by rw [← HL.out]; exact hi) with g | g
                      · exact .inl g
                      · refine .inr fun hc => ?_
                        have := (HCm.out _ (by omega)).2 hc
                        rw [g] at this
                        cases this
                    · intro h i hi _
                      have hp := HPos.out _ (List.getElem_mem hi)
                      rcases h _ (List.getElem_mem hi) with g | g
                      · exact .inl g
                      · refine .inr ?_
                        cases e : bs (R[i]).toNat with
                        | false => rfl
                        | true => exact absurd ((HCm.out _ (by omega)).1 e) g)
                  cases fr with
                  | true =>
                    have HF : Hid (PostSpec (nextW ws) j n (p : Int) ∧ Below w.heap.size w w6) := Lib.hid ⟨.inr ⟨p, rfl, hpj, HLv.out, HPn.out, HPc.out, HNear.out.1 rfl⟩, HBB.out _ HW6.out⟩
                    clear HNear HFr HS
                    go_wp2
                    go_ret
                    exact ⟨(p : Int), rfl, HF.out.1, HF.out.2⟩
                  | false =>
                    have HE : Hid ((∀ (i : Nat) (h : i < R.length), i < c + 1 → ¬ Near (nextW ws) n (R[i]).toNat) ∧ Below W3.heap.size W3 w6) := Lib.hid ⟨by
                      intro i h hic
                      by_cases e : i = c
                      · subst e
                        rw [HZ.out, Int.toNat_natCast]
                        intro hn2
                        have := HNear.out.2 hn2
                        cases this
                      · exact HS.out.1 i h (by omega), HW6.out⟩
                    clear HNear HFr HS
                    go_wp2
                    go_roundg (d - (c + 1))
                    case measure => omega
                    case rel => exact ⟨c + 1, by go_num, by omega, by omega, HE⟩
            · have hcL : c = L := by omega
              subst hcL
              have HF : Hid (PostSpec (nextW ws) j n (-1) ∧ Below w.heap.size w wr) := Lib.hid ⟨.inl ⟨rfl, fun _ p hp hpn hpc hnear => by
                have hm := (HMem.out p).2 ⟨hpn, hpc⟩
                obtain ⟨i, hi, hiz⟩ := List.getElem_of_mem hm
                have := HS.out.1 i hi (by rw [← HL.out]; exact hi)
                rw [hiz, Int.toNat_natCast] at this
                exact this hnear⟩, HBB.out _ HS.out.2⟩
              clear HS
              go_wp2
              go_ret
              exact ⟨-1, rfl, HF.out.1, HF.out.2⟩
end FlowD
end Go.Proofs.YtajhkogknpmnbaaDoor
