/- The fields of a table. -/
import Derived.Test.YtpmbbkhhnkhcbaaTab8
namespace Go.Proofs.Ytpmbbkhhnkhcbaa
open Go.RowKit ObjM Go.Maps
namespace TabD
open LabelM LabelD ValD
attribute [local go_sem] Oper.semAt_some

def aggF (x : Fd) : Value := .agg #[.int .i64 x.1.k, .int .i64 x.1.n, .string x.1.s, .int .u64 (x.1.l : Int), .int .i64 x.2.k, .int .i64 x.2.n, .string x.2.s, .int .u64 (x.2.l : Int)]
/-- What a round keeps. -/
def KpD (n₀ : Nat) (W W' : World) : Prop := Below n₀ W W' ∧ KpC [30, 42] W W'
theorem KpD.refl (n₀ : Nat) (W : World) : KpD n₀ W W := ⟨Below.refl _ _, KpC.refl _ _⟩
theorem KpD.trans {n₀ : Nat} {A B C : World} (h : KpD n₀ A B) (k : KpD n₀ B C) : KpD n₀ A C := ⟨h.1.trans k.1, h.2.trans k.2⟩
theorem KpD.alloc {n₀ : Nat} {A B : World} (h : KpD n₀ A B) (hn : n₀ ≤ B.heap.size) (o : Go.Obj) : KpD n₀ A (B.alloc o) := ⟨h.1.alloc hn o, h.2.trans (KpC.of ((KeepsT.refl [] B).alloc o) (by simp))⟩
theorem KpD.ofT {n₀ : Nat} {A B : World} (h : Below n₀ A B) (k : KeepsT [30, 42] A B) : KpD n₀ A B := ⟨h, KpC.of k (by simp)⟩
theorem KpD.put {n₀ : Nat} (W : World) (l : Nat) (o o' : Go.Obj) (hb : Below n₀ W (W.putObj l o')) (hl : W.heap[l]? = some o) (ho : o.isCells = false) : KpD n₀ W (W.putObj l o') := by
  refine ⟨hb, fun G t cs _ hh => ?_⟩
  have hne : l ≠ G := by
    rintro rfl
    rw [show W.heap[l]? = _ from hh] at hl
    cases hl
    cases ho
  show (W.putObj l o').heap[G]? = _
  unfold World.putObj
  simp [hne, show W.heap[G]? = _ from hh]

/-- What the iterator reads, in a world. -/
structure Sees (B T lab : Nat) (fs : List Fd) (fv sv nm : Value) (pm : Option Nat) (P : Nat) (W : World) : Prop where
  tab : IsT W B T lab fs fv pm sv nm
  box : Has W P 27 [.pointer (some ⟨T, 0, none⟩)]

set_option maxRecDepth 100000 in
set_option maxHeartbeats 2000000 in
theorem each1_in (n : Nat) (hn : 1 ≤ n) (B T lab : Nat) (fs : List Fd) (fv sv nm : Value) (pm : Option Nat) (P n₀ : Nat) (lb : Nat) (J Jx : List Fd → World → Prop) (W : World)
    (hY : ∀ pre x W1, J pre W1 → pre.length < fs.length → YieldAt Fence.wide (n - 1) Try.prog lb #[aggF x] W1 fun e W' =>
      (e = .returned (.bool true) ∧ J (pre ++ [x]) W' ∧ KpD n₀ W1 W') ∨ (e = .returned (.bool false) ∧ Jx (pre ++ [x]) W'))
    (hS : ∀ W', KpD n₀ W W' → Sees B T lab fs fv sv nm pm P W') (h0 : J [] W) :
    CallsIn Fence.wide n Try.prog 43 #[.func (.yield lb) #[] #[], .pointer (some ⟨P, 0, none⟩)] W fun e W' => (∃ v, e = .returned v) ∧
      ((∃ ys, ys = fs ∧ J ys W') ∨ (∃ pre, pre <+: fs ∧ Jx pre W')) := by
  have hS0 := hS W (KpD.refl _ _)
  obtain ⟨av0, cap0, rfl⟩ := own_slice hS0.tab.2.1
  have HL := Lib.hid (tlen_any T _ av0 fs.length cap0 _ W hS0.tab.1)
  have p0 := hS0.box.cell 0
  have hlP := hS0.box.lt
  simp at p0
  have hlen : fs.length ≤ 1000000 := hS0.tab.2.2.2.2.2.2
  have HS := Lib.hid hS
  clear hS hS0
  refine callsIn_of_wp Try.func43 rfl trivial ?_ rfl
  simp only [Try.ntmps43, List.size_toArray, List.length_cons, List.length_nil, Nat.reduceAdd, Nat.reduceSub, Array.replicate_succ, Array.replicate_zero, List.push_toArray, List.append_toArray, List.nil_append, List.cons_append]
  gi_wp2_with (refine ⟨trivial, ?_⟩; refine (callsIn_wide.2 HL.out).mono ?_; rintro e w5 ⟨rfl, hw⟩; subst hw)
  clear p0 hlP HL
  gi_loopw [6] (fun i wr => ∃ k : Nat, i = .int .i64 k ∧ k ≤ fs.length ∧ J (fs.take k) wr ∧ Hid (KpD n₀ W wr)) (fun i _ => fs.length - (intOf i).toNat)
  case atStart => exact ⟨0, rfl, by omega, by simpa using h0, Lib.hid (KpD.refl _ _)⟩
  case round =>
    obtain ⟨k, rfl, hk, hJ, hB⟩ := hrel
    by_cases hlt : k < fs.length
    · have hF := HS.out wr hB.out
      have hln : (fs.take k).length < fs.length := by simp; omega
      have hNx : Hid (fs.take (k + 1) = fs.take k ++ [fs[k]]) := Lib.hid (List.take_succ_eq_append_getElem hlt)
      have hPx : Hid (fs.take (k + 1) <+: fs) := Lib.hid (List.take_prefix _ _)
      have p0 := hF.box.cell 0
      have hlP := hF.box.lt
      have t1 := hF.tab.1.cell 1
      have hlT := hF.tab.1.lt
      simp at p0 t1
      have hrow : ∀ j, j < 8 → ∀ u, (fcells fs[k].1 fs[k].2)[j]? = some u → (rowF fs)[k * 8 + j]? = some u := fun j hj u hu => by rw [rowF_at fs k _ (List.getElem?_eq_getElem hlt) j hj]; exact hu
      obtain ⟨x, hx⟩ : ∃ x, fs[k] = x := ⟨_, rfl⟩
      rw [hx] at hrow hNx
      obtain ⟨⟨x0, x1, x2, x3⟩, ⟨x4, x5, x6, x7⟩⟩ := x
      obtain ⟨g, hav, hgl, c0, c1, c2, c3, c4, c5, c6, c7⟩ : ∃ g, av0 = some ⟨g, 0, none⟩ ∧ g < wr.heap.size ∧ wr.cell? ⟨g, k * 8, none⟩ = some (.int .i64 x0) ∧ wr.cell? ⟨g, k * 8 + 1, none⟩ = some (.int .i64 x1) ∧ wr.cell? ⟨g, k * 8 + 2, none⟩ = some (.string x2) ∧ wr.cell? ⟨g, k * 8 + 3, none⟩ = some (.int .u64 (x3 : Int)) ∧ wr.cell? ⟨g, k * 8 + 4, none⟩ = some (.int .i64 x4) ∧ wr.cell? ⟨g, k * 8 + 5, none⟩ = some (.int .i64 x5) ∧ wr.cell? ⟨g, k * 8 + 6, none⟩ = some (.string x6) ∧ wr.cell? ⟨g, k * 8 + 7, none⟩ = some (.int .u64 (x7 : Int)) := by
        have hO := hF.tab.2.1
        rcases own_shape hO with ⟨_, h9, _⟩ | ⟨g, cap, cs, hfv, _, hh, _⟩
        · omega
        · have hav : av0 = some ⟨g, 0, none⟩ := by injection hfv
          rw [hfv] at hO
          have go : ∀ j, j < 8 → ∀ u, (fcells ⟨x0, x1, x2, x3⟩ ⟨x4, x5, x6, x7⟩)[j]? = some u → wr.cell? ⟨g, k * 8 + j, none⟩ = some u := fun j hj u hu => by
            obtain ⟨hj2, hv2⟩ := List.getElem?_eq_some_iff.1 (hrow j hj u hu)
            rw [own_cell hO _ hj2, hv2]
          exact ⟨g, hav, hh.lt, go 0 (by omega) _ rfl, go 1 (by omega) _ rfl, go 2 (by omega) _ rfl, go 3 (by omega) _ rfl, go 4 (by omega) _ rfl, go 5 (by omega) _ rfl, go 6 (by omega) _ rfl, go 7 (by omega) _ rfl⟩
      subst hav
      have hi1 : (k : Int) < (fs.length : Int) := by omega
      have hi0 : (0 : Int) ≤ (k : Int) := by omega
      obtain ⟨fn, tmps, assign, body, hy, hR⟩ := hY _ (⟨x0, x1, x2, x3⟩, ⟨x4, x5, x6, x7⟩) _ hJ hln
      simp only [aggF] at hy hR
      clear hF hrow hx hJ
      gi_wp2
      refine hR.mono ?_
      rintro e W3 (⟨rfl, hJ3, hk3⟩ | ⟨rfl, hJx3⟩)
      · have hB3 : Hid (KpD n₀ W W3) := Lib.hid (hB.out.trans hk3)
        gi_wp2
        go_roundw
        case rel => exact ⟨k + 1, by go_num, by omega, by rw [hNx.out]; exact hJ3, hB3⟩
        case measure => simp [intOf]; omega
      · gi_wp2
        refine bodyPost_ret (results_none rfl _ _ _) rfl ?_
        exact ⟨⟨_, rfl⟩, .inr ⟨_, by rw [← hNx.out]; exact hPx.out, hJx3⟩⟩
    · obtain rfl : k = fs.length := by omega
      rw [List.take_length] at hJ
      have hlt2 : ¬ (fs.length : Int) < (fs.length : Int) := by omega
      gi_wp2
      go_end0
      first
        | exact ⟨⟨_, rfl⟩, .inl hJ⟩
        | exact ⟨⟨_, rfl⟩, .inl ⟨_, rfl, hJ⟩⟩

theorem each_stops (n : Nat) (hn : 1 ≤ n) (B T lab : Nat) (fs : List Fd) (fv sv nm : Value) (pm : Option Nat) (P n₀ : Nat) (w : World) (hn0 : n₀ ≤ w.heap.size) (hP : Has w P 27 [.pointer (some ⟨T, 0, none⟩)]) (htab : ∀ W', Below n₀ w W' → IsT W' B T lab fs fv pm sv nm) :
    SeqStopsK Fence.wide n Try.prog 43 #[.pointer (some ⟨P, 0, none⟩)] (fun x : Fd => #[aggF x]) (KpD n₀) (fun ys => ys = fs) (fun pre => pre <+: fs) fs.length w := fun lb J Jx W hW hJ _ hY h0 => by
  refine each1_in n hn B T lab fs fv sv nm pm P n₀ lb J Jx W hY ?_ h0
  intro W' hk
  exact ⟨htab W' ((hW.mono hn0).trans hk.1), hk.2 _ _ _ (by decide) (hP.below hW hP.lt)⟩

theorem addr_add (b o : Nat) (n : Nat) : (⟨b, o, none⟩ : Addr).add n = ⟨b, o + n, none⟩ := by
  unfold Addr.add
  split
  · rename_i h; subst h; rfl
  · rfl
theorem new_cells (W : World) (t : TypeId) (cs : List Value) (j : Nat) (u : Value) (h : cs[j]? = some u) : (W.alloc (.cells cs.toArray t)).cell? ((⟨W.heap.size, 0, none⟩ : Addr).add j) = some u := by
  rw [addr_add, Nat.zero_add]
  exact ((Has.new W t cs).cell j).trans h

set_option maxRecDepth 100000 in
set_option maxHeartbeats 4000000 in
theorem fields_in (B T lab : Nat) (fs : List Fd) (fv sv nm : Value) (pm : Option Nat) (w : World) (h : IsT w B T lab fs fv pm sv nm) :
    CallsIn Fence.wide 3 Try.prog 11 #[.pointer (some ⟨T, 0, none⟩)] w
      fun e W' => ∃ u, e = .returned u ∧ W'.ownsRow w.heap.size 42 8 u fs.length (rowF fs) ∧ Below w.heap.size w W' := by
  obtain ⟨i0, hi, hz0, hz1, hz2⟩ := info_parts infoFd
  have hll : fs.length ≤ 1000000 := h.2.2.2.2.2.2
  have HV := Lib.hid (fun (W : World) (hb : Below w.heap.size w W) => h.below hb)
  clear h
  have HE := fun (n : Nat) (W : World) => each_in n (some ⟨T, 0, none⟩) W
  refine callsIn_of_wp_marks Try.func11 rfl trivial ?_ rfl
  simp only [Try.ntmps11, List.size_toArray, List.length_cons, List.length_nil, Nat.reduceAdd, Nat.reduceSub, Array.replicate_succ, Array.replicate_zero, List.push_toArray, List.append_toArray, List.nil_append, List.cons_append]
  gi_wp2_with (refine ⟨trivial, ?_⟩; gi_at_call 25; refine (HE _ _).mono ?_; rintro e w' ⟨rfl, rfl⟩)
  obtain ⟨hL, hP, hB5⟩ := two_blocks w [.slice none 0 0] [.pointer (some ⟨T, 0, none⟩)] 30 27 _ rfl
  change Code.wpIn _ _ _ _ _ _ (World.alloc (World.alloc w _) _)
  generalize World.alloc (World.alloc w _) _ = W5 at hL hP hB5 ⊢
  have hN5 := hP.lt
  have hsz5 : w.heap.size ≤ W5.heap.size := hB5.size
  refine wpIn_rangeFunc_ownH rfl (by omega) (gf := 43) (lb := #[.pointer (some ⟨w.heap.size + 1, 0, none⟩)]) rfl trivial (enters_of Try.func43 (by kernel_rfl) rfl)
    (each_stops 2 (by omega) B T lab fs fv sv nm pm _ w.heap.size W5 hsz5 hP (fun W' hb => HV.out W' (hB5.trans hb))) (fun h k => h.trans k) (fun W lo o o' h1 h2 h3 h4 => KpD.put W lo o o' (belowK_b hsz5 W lo o o' h1 h2 h3 h4) h2 h3) (Below.refl _ _) (fun _ => rfl)
    (fun pre W => (∃ v, Boxed W w.heap.size 30 v ∧ W.ownsRow w.heap.size 42 8 v pre.length (rowF pre) ∧ True) ∧ Below w.heap.size w W)
    (fun _ _ _ => False)
    (OwnFrom.and (Own.from (holdsRow_own w.heap.size w.heap.size 30 42 8 (fun pre => pre.length) (fun pre => rowF pre) (fun _ _ => True)) _) (ownFrom_below (Nat.le_refl _) hsz5))
    (fun _ _ _ _ _ hs _ _ => hs)
    ⟨⟨_, hL, World.ownsRow_nil _ _ _ _, trivial⟩, hB5⟩
    (fun x a' W => ∃ g, Has W g 42 (fcells x.1 x.2) ∧ a' = { tmps := #[.pointer (some ⟨T, 0, none⟩), undef, .slice none 0 0, .pointer (some ⟨w.heap.size, 0, none⟩), .pointer (some ⟨g, 0, none⟩), .pointer (some ⟨T, 0, none⟩),
      .func (.func 43) #[] #[.pointer (some ⟨w.heap.size + 1, 0, none⟩)], aggF x, undef, undef, undef, undef, undef], defers := [] }) ?hAx ?assign ?body ?done ?stop
  case hAx =>
    intro x a'
    refine Own.from ?_ _
    rintro s X Y row ⟨g, hg, e⟩ hgr hrow
    refine ⟨g, (hgr.block g hg.lt fun e' => ?_).trans hg, e⟩
    obtain ⟨o, ho, hc⟩ := hrow g e'.symm
    rw [show X.heap[g]? = _ from hg] at ho
    cases ho
    cases hc
  case assign =>
    rintro lo pre ⟨⟨x0, x1, x2, x3⟩, ⟨x4, x5, x6, x7⟩⟩ W K ⟨⟨v, hv, hrow, -⟩, hB⟩ hK
    simp only [aggF] at hK ⊢
    gi_wp2
    exact hK _ _ ((KeepsOthers.alloc W _).from _) ((KpD.refl _ _).alloc hB.size _) ⟨⟨v, hv.alloc _, hrow.alloc _, trivial⟩, hB.alloc hB.size _⟩ ⟨_, Has.new W _ (fcells ⟨x0, x1, x2, x3⟩ ⟨x4, x5, x6, x7⟩), rfl⟩
  case body =>
    rintro lo pre ⟨⟨x0, x1, x2, x3⟩, ⟨x4, x5, x6, x7⟩⟩ a' W hlo hloop ⟨⟨v, hv, hrow, -⟩, hB⟩ ⟨g, hg, rfl⟩ hlt
    simp only [aggF]
    have hc := hv.cell
    have g0 := hg.cell 0
    have g1 := hg.cell 1
    have g2 := hg.cell 2
    have g3 := hg.cell 3
    have g4 := hg.cell 4
    have g5 := hg.cell 5
    have g6 := hg.cell 6
    have g7 := hg.cell 7
    have hgl := hg.lt
    simp [fcells, V.cells] at g0 g1 g2 g3 g4 g5 g6 g7
    have hHv : Has W w.heap.size 30 [v] := hv
    have hrw := own_row hrow
    gi_wp2_with (gi_at_builtin; refine wpListIn_append_own _ rfl _ _ 30 rfl w.heap.size 42 i0 (.agg #[.int .i64 0, .int .i64 0, .string ⟨#[]⟩, .int .u64 0, .int .i64 0, .int .i64 0, .string ⟨#[]⟩, .int .u64 0]) 8 80 Try.underlying30 hi hz0 hz1 hz2 rfl (by decide) _ _ _ rfl (hrow.alloc _) ⟨W.heap.size, 0, none⟩ 1 1 [.int .i64 x0, .int .i64 x1, .string x2, .int .u64 (x3 : Int), .int .i64 x4, .int .i64 x5, .string x6, .int .u64 (x7 : Int)] rfl rfl (fun j u h => new_cells W 42 _ j u h) (by simp [Value.oneCell']) (by unfold maxLen; omega) (by omega) (by have := hB.size; simp; omega) ?_; intro v' w1 hown' hgrow _; obtain ⟨g', cap', rfl⟩ := ownsRow_succ hown'; obtain ⟨hv1, hv2, hr2, hk2, hb2⟩ := hv.appended (by decide) hrow hB.size (by omega) hown' hgrow; have hc1 := hv1.cell; have hf1 := hv1.frozen)
    have hKT := ((KeepsT.refl [30, 42] W).alloc _).grown hgrow (fun g hg => .inr (by
      obtain ⟨cs, h⟩ := hrw g hg
      exact ⟨_, cs, h.keepsT ((KeepsT.refl [] W).alloc _) (by simp), by simp⟩))
    have hKT2 := hKT.set (show Has w1 w.heap.size 30 [v] from hv1) (.inl (by simp)) 0 (.slice (some ⟨g', 0, none⟩) (pre.length + 1) cap')
    exact ⟨hk2.from _, KpD.ofT hb2 hKT2, ⟨_, hv2, by simpa [rowF_snoc, V.cells] using hr2⟩, hB.trans hb2⟩
  case done =>
    rintro D ys W hD rfl ⟨⟨v, hv, hrow, -⟩, hB⟩ hK
    have hc := hv.cell
    gi_wp2
    refine ⟨by simp, .inl ⟨_, _, rfl, run_takeDeferred hK, ?_⟩⟩
    exact ⟨_, results_tmp rfl _ _ _, v, rfl, ownsRow_putObj hrow _ hK rfl, hB.trans (belowK_b (w := w) (Nat.le_refl _) W D _ _ (Nat.le_trans hsz5 hD) hK rfl rfl)⟩
  case stop =>
    rintro D c pre W _ _ h _
    exact h.elim
theorem fields_any (B T lab : Nat) (fs : List Fd) (fv sv nm : Value) (pm : Option Nat) (w : World) (h : IsT w B T lab fs fv pm sv nm) :
    Calls Try.prog 11 #[.pointer (some ⟨T, 0, none⟩)] w fun e W' => ∃ u, e = .returned u ∧ W'.ownsRow w.heap.size 42 8 u fs.length (rowF fs) ∧ Below w.heap.size w W' :=
  callsIn_wide.1 (fields_in B T lab fs fv sv nm pm w h)
end TabD
end Go.Proofs.Ytpmbbkhhnkhcbaa
