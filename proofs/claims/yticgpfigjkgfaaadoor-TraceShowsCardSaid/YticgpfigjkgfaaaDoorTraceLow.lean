/- What one sees of events: the iterator. -/
import Derived.Test.YticgpfigjkgfaaaDoorTrace2
import Derived.RangeFuncBox
import Derived.RangeFuncLeaves
import Derived.RangeFuncCalls
import Derived.OwnWalkIn
import Derived.TacticsInMore
import Derived.LoopNIn
import Derived.LoopIn
import Derived.Maps.AppendAt
import Derived.Stop.RegionWithIn
namespace Go.Proofs.YticgpfigjkgfaaaDoor
open Go.RowKit ObjM
namespace TraceD
open LabelM LabelD
attribute [local go_sem] Oper.semAt_some

def masksV (ms : List Nat) : List Value := ms.map fun (m : Nat) => Value.int .u64 (m : Int)
def visB (ms : List Nat) (see : Nat) (e : Ev) : Bool := decide (0 ≤ e.ch) && decide (e.ch < 8) && flowsB (ms.getD e.ch.toNat 0) see
def visL (ms : List Nat) (see : Nat) (l : List Ev) : List Ev := l.filter (visB ms see)

set_option maxHeartbeats 1000000 in
theorem seen_in (n : Nat) (av : Option Addr) (ln cw : Nat) (ms : List Nat) (see : Nat) (w : World) :
    CallsIn Fence.wide n Tryd.prog 19 #[.slice av ln cw, .agg (masksV ms).toArray, .int .u64 see] w fun e w' => e = .returned (.func (.func 29) #[] #[.pointer (some ⟨w.heap.size, 0, none⟩), .pointer (some ⟨w.heap.size + 1, 0, none⟩), .pointer (some ⟨w.heap.size + 1 + 1, 0, none⟩)]) ∧
      w' = ((w.alloc (.cells #[.slice av ln cw] 22)).alloc (.cells (masksV ms).toArray 25)).alloc (.cells #[.int .u64 see] 24) := by
  refine callsIn_of_wp Tryd.func19 rfl trivial ?_ rfl
  simp only [Tryd.ntmps19, List.size_toArray, List.length_cons, List.length_nil, Nat.reduceAdd, Nat.reduceSub, Array.replicate_succ, Array.replicate_zero, List.push_toArray, List.append_toArray, List.nil_append, List.cons_append]
  gi_wp2
  go_ret
  exact ⟨rfl, rfl⟩

theorem visL_next {ms : List Nat} {see : Nat} {l : List Ev} {k : Nat} (h : k < l.length) : visL ms see (l.take (k + 1)) = if visB ms see l[k] = true then visL ms see (l.take k) ++ [l[k]] else visL ms see (l.take k) := by
  unfold visL
  rw [List.take_succ_eq_append_getElem h, List.filter_append]
  split <;> simp [*]
theorem visL_prefix {ms : List Nat} {see : Nat} {l : List Ev} (k : Nat) : visL ms see (l.take k) <+: visL ms see l := by
  unfold visL
  refine ⟨(l.drop k).filter (visB ms see), ?_⟩
  rw [← List.filter_append, List.take_append_drop]
theorem visL_len {ms : List Nat} {see : Nat} {l : List Ev} {k : Nat} (h : k < l.length) : (visL ms see (l.take k)).length < l.length := by
  have h1 := List.length_filter_le (visB ms see) (l.take k)
  have h2 : (l.take k).length ≤ k := by simp; omega
  unfold visL
  omega
theorem grown_drew (W : World) : W.grownBy W.drew none := ⟨rfl, rfl, rfl, Nat.le_refl _, fun _ _ _ => rfl⟩

/-- Objects of other types than the events' and their slices' are as they were. -/
def KeepC (W W' : World) : Prop := ∀ G t cs, t ≠ 22 → t ≠ 38 → Has W G t cs → Has W' G t cs
/-- What a round keeps. -/
def KpD (n₀ : Nat) (W W' : World) : Prop := Below n₀ W W' ∧ KeepC W W'
theorem KpD.refl (n₀ : Nat) (W : World) : KpD n₀ W W := ⟨Below.refl _ _, fun _ _ _ _ _ h => h⟩
theorem KpD.trans {n₀ : Nat} {A B C : World} (h : KpD n₀ A B) (k : KpD n₀ B C) : KpD n₀ A C := ⟨h.1.trans k.1, fun G t cs h1 h2 hh => k.2 G t cs h1 h2 (h.2 G t cs h1 h2 hh)⟩
theorem KpD.alloc {n₀ : Nat} {A B : World} (h : KpD n₀ A B) (hn : n₀ ≤ B.heap.size) (o : Go.Obj) : KpD n₀ A (B.alloc o) := ⟨h.1.alloc hn o, fun G t cs h1 h2 hh => (h.2 G t cs h1 h2 hh).keepsT ((KeepsT.refl [] B).alloc o) (by simp)⟩
theorem KpD.drew {n₀ : Nat} {A B : World} (h : KpD n₀ A B) : KpD n₀ A B.drew := ⟨h.1.drew, h.2⟩
theorem KpD.ofT {n₀ : Nat} {A B : World} (h : Below n₀ A B) (k : KeepsT [22, 38] A B) : KpD n₀ A B := ⟨h, fun G t cs h1 h2 hh => hh.keepsT k (by simp [h1, h2])⟩
theorem KpD.put {n₀ : Nat} (W : World) (l : Nat) (o o' : Go.Obj) (hb : Below n₀ W (W.putObj l o')) (hl : W.heap[l]? = some o) (ho : o.isCells = false) : KpD n₀ W (W.putObj l o') := by
  refine ⟨hb, fun G t cs _ _ hh => ?_⟩
  have hne : l ≠ G := by
    rintro rfl
    rw [show W.heap[l]? = _ from hh] at hl
    cases hl
    cases ho
  show (W.putObj l o').heap[G]? = _
  unfold World.putObj
  simp [hne, show W.heap[G]? = _ from hh]

/-- What the iterator reads, in a world. -/
structure Seen (ms : List Nat) (see : Nat) (l : List Ev) (av : Option Addr) (cw M E : Nat) (W : World) : Prop where
  evs : EvsAt W (.slice av l.length cw) l
  ltM : M < W.heap.size
  ltE : E < W.heap.size
  mask : ∀ j, j < 8 → W.cell? ⟨M, j, none⟩ = some (.int .u64 (ms.getD j 0 : Nat))
  see : W.cell? ⟨E, 0, none⟩ = some (.int .u64 (see : Int))

set_option maxRecDepth 100000 in
set_option maxHeartbeats 2000000 in
theorem seen1_in (n : Nat) (hn : 1 ≤ n) (ms : List Nat) (see : Nat) (l : List Ev) (av : Option Addr) (cw P M E n₀ : Nat) (lb : Nat) (hll : l.length ≤ 9223372036854775807) (hms : ∀ j, ms.getD j 0 < M64) (hse : see < M64) (J Jx : List Ev → World → Prop)
    (W : World) (hn0 : n₀ ≤ W.heap.size) (hAb : AbidesFrom W.heap.size J)
    (hY : ∀ pre x W1, J pre W1 → pre.length < l.length → YieldAt Fence.wide (n - 1) Tryd.prog lb #[x.agg] W1 fun e W' =>
      (e = .returned (.bool true) ∧ J (pre ++ [x]) W' ∧ KpD n₀ W1 W') ∨ (e = .returned (.bool false) ∧ Jx (pre ++ [x]) W'))
    (p0 : W.cell? ⟨P, 0, none⟩ = some (.slice av l.length cw)) (hS : ∀ W', KpD n₀ W W' → Seen ms see l av cw M E W') (h0 : J [] W) :
    CallsIn Fence.wide n Tryd.prog 29 #[.func (.yield lb) #[] #[], .pointer (some ⟨P, 0, none⟩), .pointer (some ⟨M, 0, none⟩), .pointer (some ⟨E, 0, none⟩)] W fun e W' => (∃ v, e = .returned v) ∧
      ((∃ ys, ys = visL ms see l ∧ J ys W') ∨ (∃ pre, pre <+: visL ms see l ∧ Jx pre W')) := by
  have HS := Lib.hid hS
  have HA := Lib.hid hAb
  clear hS hAb
  refine callsIn_of_wp Tryd.func29 rfl trivial ?_ rfl
  simp only [Tryd.ntmps29, List.size_toArray, List.length_cons, List.length_nil, Nat.reduceAdd, Nat.reduceSub, Array.replicate_succ, Array.replicate_zero, List.push_toArray, List.append_toArray, List.nil_append, List.cons_append]
  gi_wp2
  gi_loopw [9] (fun i wr => ∃ k : Nat, i = .int .i64 k ∧ k ≤ l.length ∧ J (visL ms see (l.take k)) wr ∧ Hid (KpD n₀ W wr)) (fun i _ => l.length - (intOf i).toNat)
  case atStart => exact ⟨0, rfl, by omega, by simpa [visL] using h0, Lib.hid (KpD.refl _ _)⟩
  case round =>
    obtain ⟨k, rfl, hk, hJ, hB⟩ := hrel
    have hnr : n₀ ≤ wr.heap.size := Nat.le_trans hn0 hB.out.1.size
    have hMr : M < wr.heap.size := (HS.out wr hB.out).ltM
    have hEr : E < wr.heap.size := (HS.out wr hB.out).ltE
    by_cases hlt : k < l.length
    · have hF := HS.out wr hB.out
      obtain ⟨b, o, rfl, hbl, c0, c1, c2, c3⟩ := hF.evs.at k hlt
      have hNx := Lib.hid (visL_next (ms := ms) (see := see) hlt)
      have hPx := Lib.hid (visL_prefix (ms := ms) (see := see) (l := l) (k + 1))
      have hln := visL_len (ms := ms) (see := see) hlt
      have hm8 := hF.mask
      have e0 := hF.see
      obtain ⟨⟨x0, x1, x2, x3⟩, hx⟩ : ∃ x, l[k] = x := ⟨_, rfl⟩
      rw [hx] at c0 c1 c2 c3 hNx
      simp only at c0 c1 c2 c3
      have hi1 : (k : Int) < (l.length : Int) := by omega
      have hJ1 := HA.out _ _ (wr.alloc (.cells #[.int .i64 x0, .int .i64 x1, .int .i64 x2, .string x3] 38)) none hJ (World.grownBy_alloc _ _ none) (by simp)
      have hJ2 := HA.out _ _ _ none hJ1 (grown_drew _) (by simp)
      have hB2 : Hid (KpD n₀ W ((wr.alloc (.cells #[.int .i64 x0, .int .i64 x1, .int .i64 x2, .string x3] 38)).drew)) := Lib.hid ((hB.out.alloc hnr _).drew)
      clear hF hx hJ hJ1
      by_cases hr : 0 ≤ x0 ∧ x0 < 8
      · obtain ⟨j, rfl⟩ : ∃ j : Nat, x0 = j := ⟨x0.toNat, by omega⟩
        have hj8 : j < 8 := by omega
        have hj8i : (j : Int) < 8 := by omega
        have hj0i : ¬ (j : Int) < 0 := by omega
        have hj8n : ¬ (8 : Int) ≤ (j : Int) := by omega
        have hd0 : decide ((j : Int) < 0) = false := decide_eq_false hj0i
        have hd8 : decide ((8 : Int) ≤ (j : Int)) = false := decide_eq_false hj8n
        have m0 := hm8 j hj8
        have HFl := fun W => Lib.hid (flows_any (ms.getD j 0) see (hms j) hse W)
        have hvis : Hid (visB ms see ⟨(j : Int), x1, x2, x3⟩ = flowsB (ms.getD j 0) see) := Lib.hid (by simp [visB, hj8i])
        obtain ⟨mj, hmj⟩ : ∃ mj, ms.getD j 0 = mj := ⟨_, rfl⟩
        rw [hmj] at m0 HFl hvis
        clear hm8 hr
        cases hfl : flowsB mj see
        · rw [hfl] at HFl hvis
          gi_wp2
          gi_region_with (first | (gi_at_call 27; refine (callsIn_wide.2 (HFl _).out).mono ?_; rintro e w5 ⟨rfl, hw⟩; subst hw) | (refine ⟨trivial, ?_⟩; gi_at_call 27; refine (callsIn_wide.2 (HFl _).out).mono ?_; rintro e w5 ⟨rfl, hw⟩; subst hw))
          all_goals
            gi_wp2
            go_roundw
            case rel => exact ⟨k + 1, by go_num, by omega, by rw [hNx.out, if_neg (by rw [hvis.out]; simp)]; exact hJ2, hB2⟩
            case measure => simp [intOf]; omega
        · rw [hfl] at HFl hvis
          obtain ⟨fn, tmps, assign, body, hy, hR⟩ := hY _ ⟨(j : Int), x1, x2, x3⟩ _ hJ2 hln
          simp only [Ev.agg] at hy
          have HNx2 : Hid (visL ms see (l.take (k + 1)) = visL ms see (l.take k) ++ [⟨(j : Int), x1, x2, x3⟩]) := Lib.hid (by rw [hNx.out, if_pos hvis.out])
          clear hNx
          gi_wp2
          gi_region_with (first | (gi_at_call 27; refine (callsIn_wide.2 (HFl _).out).mono ?_; rintro e w5 ⟨rfl, hw⟩; subst hw) | (refine ⟨trivial, ?_⟩; gi_at_call 27; refine (callsIn_wide.2 (HFl _).out).mono ?_; rintro e w5 ⟨rfl, hw⟩; subst hw))
          all_goals
            gi_wp2
            refine hR.mono ?_
            rintro e W3 (⟨rfl, hJ3, hk3⟩ | ⟨rfl, hJx3⟩)
            · have hB3 : Hid (KpD n₀ W W3) := Lib.hid (hB2.out.trans hk3)
              gi_wp2
              go_roundw
              case rel => exact ⟨k + 1, by go_num, by omega, by rw [HNx2.out]; exact hJ3, hB3⟩
              case measure => simp [intOf]; omega
            · gi_wp2
              refine bodyPost_ret (results_none rfl _ _ _) rfl ?_
              exact ⟨⟨_, rfl⟩, .inr ⟨_, by rw [← HNx2.out]; exact hPx.out, hJx3⟩⟩
      · have hvis : Hid (visB ms see ⟨x0, x1, x2, x3⟩ = false) := Lib.hid (by
          unfold visB
          by_cases h0 : 0 ≤ x0
          · have h8 : ¬ x0 < 8 := fun h => hr ⟨h0, h⟩
            simp [h8]
          · simp [h0])
        rcases (show x0 < 0 ∨ (¬ x0 < 0 ∧ 8 ≤ x0) by omega) with hlo | ⟨hlo, hhi⟩
        · have hd0 : decide (x0 < 0) = true := decide_eq_true hlo
          clear hr hm8
          have hun : undef = Value.tuple #[] := rfl
          gi_wp2
          first
            | (gi_region_with (refine ⟨trivial, ?_⟩))
            | fail
          all_goals
            simp only [← hun]
            clear hun
            gi_wp2
            go_roundw
            case rel => exact ⟨k + 1, by go_num, by omega, by rw [hNx.out, if_neg (by rw [hvis.out]; simp)]; exact hJ2, hB2⟩
            case measure => simp [intOf]; omega
        · have hd0 : decide (x0 < 0) = false := decide_eq_false hlo
          have hd8 : decide ((8 : Int) ≤ x0) = true := decide_eq_true hhi
          clear hr hm8
          have hun : undef = Value.tuple #[] := rfl
          gi_wp2
          first
            | (gi_region_with (refine ⟨trivial, ?_⟩))
            | fail
          all_goals
            simp only [← hun]
            clear hun
            gi_wp2
            go_roundw
            case rel => exact ⟨k + 1, by go_num, by omega, by rw [hNx.out, if_neg (by rw [hvis.out]; simp)]; exact hJ2, hB2⟩
            case measure => simp [intOf]; omega
    · obtain rfl : k = l.length := by omega
      rw [List.take_length] at hJ
      have hlt2 : ¬ (l.length : Int) < (l.length : Int) := by omega
      gi_wp2
      go_end0
      first
        | exact ⟨⟨_, rfl⟩, .inl hJ⟩
        | exact ⟨⟨_, rfl⟩, .inl ⟨_, rfl, hJ⟩⟩
end TraceD
end Go.Proofs.YticgpfigjkgfaaaDoor
