/- The places of a set, one by one. -/
import Derived.Test.YtajhkogknpmnbaaDoorFlowK
import Derived.Test.YtajhkogknpmnbaaDoorLabelIter
import Derived.RangeFuncNested
import Derived.Sort.QuietIn
import Derived.OwnWalkIn
namespace Go.Proofs.YtajhkogknpmnbaaDoor
open Go.RowKit ObjM Go.Shelf
namespace FlowD
open FlowM LabelM LabelD
attribute [local go_sem] Oper.semAt_some

/-- The places of words of bits from word q on. -/
def posOf : Nat → List Nat → List Nat
  | _, [] => []
  | q, x :: r => (finsL x).map (fun i => 64 * q + i.val) ++ posOf (q + 1) r
def bitsAt (q x : Nat) : List Nat := (finsL x).map (fun i => 64 * q + i.val)
theorem posOf_drop {ws : List Nat} {q b : Nat} (h : q < ws.length) : posOf b (ws.drop q) = bitsAt b ws[q] ++ posOf (b + 1) (ws.drop (q + 1)) := by
  rw [List.drop_eq_getElem_cons h]
  rfl
abbrev Pl (L : List Nat) := { x : Nat // x ∈ L }
set_option maxHeartbeats 1000000 in
theorem places_in (n : Nat) (a : Option Addr) (k c : Nat) (w : World) :
    CallsIn Fence.wide n Tryd.prog 39 #[.slice a k c] w fun e w' => e = .returned (.func (.func 58) #[] #[.pointer (some ⟨w.heap.size, 0, none⟩)]) ∧ w' = w.alloc (.cells #[.slice a k c] 54) := by
  refine callsIn_of_wp Tryd.func39 rfl trivial ?_ rfl
  simp only [Tryd.ntmps39, List.size_toArray, List.length_cons, List.length_nil, Nat.reduceAdd, Nat.reduceSub, Array.replicate_succ, Array.replicate_zero, List.push_toArray, List.append_toArray, List.nil_append, List.cons_append]
  gi_wp2
  go_ret
  exact ⟨rfl, rfl⟩
set_option maxRecDepth 100000 in
set_option maxHeartbeats 4000000 in
theorem places1_in (n : Nat) (hn : 1 ≤ n) (l Bn G c n₀ k : Nat) (ws L : List Nat) (hk : ws.length = k) (hk4 : k ≤ 4) (hws : ∀ x ∈ ws, x < M64) (hL : posOf 0 ws = L) (J Jx : List (Pl L) → World → Prop)
    (hY : ∀ pre x W, J pre W → pre.length < L.length → YieldAt Fence.wide (n - 1) Tryd.prog l #[.int .i64 ((x : Pl L).val : Int)] W fun e W' =>
      (e = .returned (.bool true) ∧ J (pre ++ [x]) W' ∧ Below n₀ W W') ∨ (e = .returned (.bool false) ∧ Jx (pre ++ [x]) W'))
    (W : World) (hBn : W.cell? ⟨Bn, 0, none⟩ = some (.slice (some ⟨G, 0, none⟩) k c)) (hG : ∀ (i x : Nat), ws[i]? = some x → W.cell? ⟨G, i, none⟩ = some (.int .u64 (x : Int))) (hGl : G < W.heap.size ∧ G < n₀) (hT : Bru W) (hn₀ : 0 < n₀) (h0 : J [] W) :
    CallsIn Fence.wide n Tryd.prog 58 #[.func (.yield l) #[] #[], .pointer (some ⟨Bn, 0, none⟩)] W fun e W' => (∃ v, e = .returned v) ∧
      ((∃ ys : List (Pl L), ys.map (·.val) = L ∧ J ys W') ∨ (∃ pre : List (Pl L), pre.map (·.val) <+: L ∧ Jx pre W')) := by
  have HK := Lib.hid hk
  have HWs := Lib.hid hws
  have HG := Lib.hid hG
  have HT := Lib.hid hT
  have HL : Hid (posOf 0 (ws.drop 0) = L) := Lib.hid (by simpa using hL)
  clear hk hws hG hT hL
  refine callsIn_of_wp Tryd.func58 rfl trivial ?_ rfl
  simp only [Tryd.ntmps58, List.size_toArray, List.length_cons, List.length_nil, Nat.reduceAdd, Nat.reduceSub, Array.replicate_succ, Array.replicate_zero, List.push_toArray, List.append_toArray, List.nil_append, List.cons_append]
  gi_wp2
  gi_loopw [7] (fun rv wr => ∃ (pre : List (Pl L)) (q : Nat), rv = .int .i64 (q : Int) ∧ q ≤ k ∧ Hid (pre.map (·.val) ++ posOf q (ws.drop q) = L) ∧ J pre wr ∧ Hid (Below n₀ W wr)) (fun rv _ => k - (intOf rv).toNat)
  case atStart =>
    exact ⟨[], 0, rfl, by omega, Lib.hid (by simpa using HL.out), h0, Lib.hid (Below.refl _ _)⟩
  case round =>
    obtain ⟨pre, q, rfl, hq, HE, hJ, HB⟩ := hrel
    by_cases hlt : q < k
    · have hi1 : (q : Int) < (k : Int) := by omega
      have hi0 : (0 : Int) ≤ (q : Int) := by omega
      have hql : q < ws.length := by rw [HK.out]; exact hlt
      have hx := HWs.out _ (List.getElem_mem hql)
      have hcG := (HB.out.cell (p := ⟨G, q, none⟩) hGl.2).trans (HG.out q _ (List.getElem?_eq_getElem hql))
      have hlG : G < wr.heap.size := Nat.lt_of_lt_of_le hGl.1 HB.out.size
      have HE2 : Hid (pre.map (·.val) ++ (bitsAt q ws[q] ++ posOf (q + 1) (ws.drop (q + 1))) = L) := Lib.hid (by rw [← posOf_drop hql]; exact HE.out)
      generalize ws[q] = x0 at hx hcG HE2
      have hw64 : IntKind.i64.wrap ((q : Int) * 64) = (q : Int) * 64 := IntWalk.i64_in _ (by omega)
      clear HE
      gi_wp2
      gi_loopw [4] (fun rv wr2 => ∃ (pre : List (Pl L)) (x : Nat), rv = .int .u64 (x : Int) ∧ x < M64 ∧ Hid (pre.map (·.val) ++ (bitsAt q x ++ posOf (q + 1) (ws.drop (q + 1))) = L) ∧ J pre wr2 ∧ Hid (Below n₀ W wr2)) (fun rv _ => (finsL (intOf rv).toNat).length)
      case atStart =>
        exact ⟨pre, x0, rfl, hx, HE2, hJ, HB⟩
      case round =>
        obtain ⟨pre, x, rfl, hx, HE, hJ, HB⟩ := hrel
        clear HE2 hcG hlG
        by_cases hz : x = 0
        · subst hz
          have HE3 : Hid (pre.map (·.val) ++ posOf (q + 1) (ws.drop (q + 1)) = L) := Lib.hid (by
            have h := HE.out
            have e : bitsAt q 0 = [] := by unfold bitsAt; rw [finsL_zero]; rfl
            rwa [e, List.nil_append] at h)
          clear HE
          gi_wp2
          go_roundw
          case rel => exact ⟨pre, q + 1, by go_num, by omega, HE3, hJ, HB⟩
          case measure => simp [intOf]; omega
        · obtain ⟨m, hm, hnx⟩ := finsL_next hz hx
          have hbt : bitsAt q x = (64 * q + m.val) :: bitsAt q (x &&& (x - 1)) := by
            unfold bitsAt
            rw [hnx]
            rfl
          have hE := HE.out
          rw [hbt] at hE
          have hin : 64 * q + m.val ∈ L := by rw [← hE]; simp
          have hlen : pre.length < L.length := by
            have h := congrArg List.length hE
            simp at h
            omega
          have hmv : ((64 * q + m.val : Nat) : Int) = (q : Int) * 64 + (m.val : Int) := by simp; omega
          obtain ⟨fn, tmps, assign, body, hy, hR⟩ := hY pre ⟨64 * q + m.val, hin⟩ wr hJ hlen
          simp only [hmv] at hy
          have HE3 : Hid ((pre ++ [(⟨64 * q + m.val, hin⟩ : Pl L)]).map (·.val) ++ (bitsAt q (x &&& (x - 1)) ++ posOf (q + 1) (ws.drop (q + 1))) = L) := Lib.hid (by
            rw [List.map_append]
            simpa using hE)
          have HPr : Hid ((pre ++ [(⟨64 * q + m.val, hin⟩ : Pl L)]).map (·.val) <+: L) := Lib.hid ⟨_, HE3.out⟩
          have hc := tz_any x hz hx wr (fun j hj => (HB.out.cell (p := ⟨_, j, none⟩) hn₀).trans (HT.out j hj))
          rw [hm] at hc
          have HC := Lib.hid hc
          have HA := Lib.hid (andPred hz hx)
          have HN := Lib.hid hnx
          have hxz : ((x : Int) == 0) = false := by simpa using hz
          have hxz2 : ((x : Int) != 0) = true := by simpa using hz
          have hml := m.isLt
          have hwm : IntKind.i64.wrap ((q : Int) * 64 + (m.val : Int)) = (q : Int) * 64 + (m.val : Int) := IntWalk.i64_in _ (by omega)
          clear hc hm hnx hbt hE hmv HE
          gi_wp2_with (refine ⟨trivial, ?_⟩; gi_at_call 59; refine (callsIn_wide.2 HC.out).mono ?_; rintro e w' ⟨rfl, rfl⟩)
          refine hR.mono ?_
          rintro e W3 (⟨rfl, hJ3, hk3⟩ | ⟨rfl, hJx3⟩)
          · gi_wp2
            rw [HA.out]
            go_roundw
            case rel => exact ⟨_, x &&& (x - 1), rfl, and_lt hx, HE3, hJ3, Lib.hid (HB.out.trans hk3)⟩
            case measure =>
              have e1 : (intOf (Value.int .u64 ((x &&& (x - 1) : Nat) : Int))).toNat = x &&& (x - 1) := rfl
              have e2 : (intOf (Value.int .u64 (x : Int))).toNat = x := rfl
              rw [e1, e2, HN.out]
              simp
          · gi_wp2
            refine bodyPost_ret (results_none rfl _ _ _) rfl ?_
            exact ⟨⟨_, rfl⟩, .inr ⟨_, HPr.out, hJx3⟩⟩
    · have hqk : q = k := by omega
      subst hqk
      have HF : Hid (pre.map (·.val) = L) := Lib.hid (by
        have h := HE.out
        rw [List.drop_of_length_le (by rw [HK.out]; exact Nat.le_refl _)] at h
        simpa [posOf] using h)
      clear HE
      gi_wp2
      go_end0
      exact ⟨⟨_, rfl⟩, .inl ⟨pre, HF.out, hJ⟩⟩
theorem places_stops (n : Nat) (hn : 1 ≤ n) (Bn G c n₀ k : Nat) (ws L : List Nat) (hk : ws.length = k) (hk4 : k ≤ 4) (hws : ∀ x ∈ ws, x < M64) (hL : posOf 0 ws = L) (w : World) (hBn : Bn < w.heap.size) (hG : G < w.heap.size) (hGn : G < n₀) (hn₀ : n₀ ≤ w.heap.size) (hg : 0 < n₀)
    (hc : w.cell? ⟨Bn, 0, none⟩ = some (.slice (some ⟨G, 0, none⟩) k c)) (hcG : ∀ (i x : Nat), ws[i]? = some x → w.cell? ⟨G, i, none⟩ = some (.int .u64 (x : Int))) (hT : Bru w) :
    SeqStopsK Fence.wide n Tryd.prog 58 #[.pointer (some ⟨Bn, 0, none⟩)] (fun x : Pl L => #[Value.int .i64 (x.val : Int)]) (Below n₀) (fun ys => ys.map (·.val) = L) (fun pre => pre.map (·.val) <+: L) L.length w := fun l J Jx W hW _ _ hY h0 =>
  places1_in n hn l Bn G c n₀ k ws L hk hk4 hws hL J Jx hY W ((hW.cell (p := ⟨Bn, 0, none⟩) hBn).trans hc) (fun i x h => (hW.cell (p := ⟨G, i, none⟩) hG).trans (hcG i x h)) ⟨Nat.lt_of_lt_of_le hG hW.size, hGn⟩ (fun j hj => (hW.cell (p := ⟨_, j, none⟩) (Nat.lt_of_lt_of_le hg hn₀)).trans (hT j hj)) hg h0
end FlowD
end Go.Proofs.YtajhkogknpmnbaaDoor
namespace Go.Proofs.YtajhkogknpmnbaaDoor
open Go.RowKit Go
theorem oper_inRound {F : Fence} {n : Nat} {P : Program} {o : Oper} {a : Act} {w : World} {K : Act → World → Prop} {Q : Exit → Act → World → Prop} (l : Nat) (hd : ∀ c, o.op ≠ .defer c) (h : o.wpIn F n P a w K Q) : o.wpIn (F.inRound l) n P a w K Q := by
  unfold Oper.wpIn at *
  refine ⟨h.1, ?_⟩
  have h2 := h.2
  rw [Oper.semAt_plain F _ _ hd] at h2
  rw [Oper.semAt_plain (F.inRound l) _ _ hd]
  generalize (execOp a.eval o).run P w = r at h2
  cases r with
  | ok x w' =>
    cases x <;> exact h2
  | halt x w' => cases x <;> exact h2
theorem any_inRound {F : Fence} {n : Nat} {P : Program} {md : Region.Mode} {ops : Array Oper} {Q : Exit → Act → World → Prop} (l : Nat) (hd : ∀ (i : Nat) (o : Oper), ops[i]? = some o → ∀ c, o.op ≠ .defer c) :
    ∀ (fuel : Nat) (listed : Array Bool) (a : Act) (w : World), wpAnyIn F n P md ops Q fuel listed a w → wpAnyIn (F.inRound l) n P md ops Q fuel listed a w
  | 0, _, _, _, h => h
  | fuel + 1, listed, a, w, h => by
    refine ⟨h.1, fun i hi => ?_⟩
    have h2 := h.2 i hi
    have h3 : wpOpIn F n P ops Q i (wpAnyIn (F.inRound l) n P md ops Q fuel (listed.setIfInBounds i true)) a w := wpOpIn_mono (fun a' w' h => any_inRound l hd fuel _ a' w' h) h2
    unfold wpOpIn at h3 ⊢
    cases ho : ops[i]? with
    | none => simp only [ho] at h3 ⊢; exact h3
    | some o =>
      simp only [ho] at h3 ⊢
      split
      · rename_i hw
        rw [if_pos hw] at h3
        exact oper_inRound l (hd i o ho) h3
      · rename_i hw
        rw [if_neg hw] at h3
        exact h3
def noDefer (ops : Array Oper) : Bool := ops.toList.all fun o => match o.op with | .defer _ => false | _ => true
theorem noDefer_of {ops : Array Oper} (h : noDefer ops = true) (i : Nat) (o : Oper) (ho : ops[i]? = some o) (c : Call) : o.op ≠ .defer c := by
  intro e
  unfold noDefer at h
  rw [List.all_eq_true] at h
  have h1 := h o (by rw [Array.mem_toList_iff]; exact Array.mem_of_getElem? ho)
  rw [e] at h1
  cases h1
theorem region_quiet_round {F : Fence} {n : Nat} {P : Program} {id : Nat} {Q : Exit → Act → World → Prop} {a : Act} {w : World} {l : List Oper} {l0 : Nat} (hro : F.round = none) (hm : P.follows .mixedOrders = true) (hB : Region.lexB .any l.toArray = true) (hd : noDefer l.toArray = true)
    (h : wpQuietIn F n P l.toArray (fun w' => ∃ n, w' = w.drewN n) (fun a' => ∀ w', (∃ n, w' = w.drewN n) → Q .normal a' w') l a) : (Code.region id l.toArray true).wpIn (F.inRound l0) n P Q a w := by
  have hB' := hB
  simp only [Region.lexB, Bool.and_eq_true] at hB'
  refine wpIn_region_any hm (any_inRound l0 (noDefer_of hd) _ _ _ _ (wpAnyIn_of_quiet (C := fun w' => ∃ n, w' = w.drewN n) (Q := fun a' => ∀ w', (∃ n, w' = w.drewN n) → Q .normal a' w') hro (fun _ w' hw' h => h w' hw') _ _ _ _ ⟨1, rfl⟩ ?_))
  have := wpAnyQIn_lex (F := F) (n := n) (C := fun w' => ∃ n, w' = w.drewN n) (md := .any) hB'.1 l.toArray.toList 0 (Array.replicate l.toArray.size false) a (by simp) (by simpa using hB'.2) (by simpa using h)
  simpa using this
end Go.Proofs.YtajhkogknpmnbaaDoor
namespace Go.Proofs.YtajhkogknpmnbaaDoor
open Go.RowKit ObjM Go.Shelf
namespace FlowD
open FlowM LabelM LabelD
attribute [local go_sem] Oper.semAt_some

def nearT (n : Nat) (szs : List Int) (p : Nat) : Bool := p != n && szs.getD p 0 == szs.getD n 0 - 1
def nearV (n : Nat) (szs : List Int) (L : List Nat) : Int := match L.find? (nearT n szs) with
  | some p => (p : Int)
  | none => -1
theorem near_none {n : Nat} {szs : List Int} {L : List Nat} (h : ∀ p ∈ L, nearT n szs p = false) : nearV n szs L = -1 := by
  unfold nearV
  rw [List.find?_eq_none.2 (fun p hp => by rw [h p hp]; simp)]
theorem near_some {n : Nat} {szs : List Int} {a r : List Nat} {p : Nat} (h : ∀ q ∈ a, nearT n szs q = false) (hp : nearT n szs p = true) : nearV n szs (a ++ p :: r) = (p : Int) := by
  unfold nearV
  rw [List.find?_append, List.find?_eq_none.2 (fun q hq => by rw [h q hq]; simp), List.find?_cons, hp]
  rfl
theorem getD_of {szs : List Int} {m p : Nat} (hl : szs.length = m) (hp : p < m) : ∃ h : p < szs.length, szs.getD p 0 = szs[p] := ⟨by omega, by simp [List.getD, hl, hp]⟩
theorem keeps_drewN (W : World) : ∀ n, KeepsOthers W (W.drewN n) := fun _ => ⟨Nat.le_refl _, fun _ _ h _ => h⟩
set_option maxRecDepth 100000 in
set_option maxHeartbeats 4000000 in
theorem nearest_in (n G c F cF m x : Nat) (szs : List Int) (L : List Nat) (w : World) (hn : n < m) (hG : SetAt w G x) (hx : x < M64) (hF : RowAt w F szs) (hl : szs.length = m) (hb : ∀ z ∈ szs, 0 ≤ z ∧ z ≤ 1000000) (hL : posOf 0 [x] = L) (hLm : ∀ p ∈ L, p < m) (hT : Bru w) (hg : 0 < w.heap.size) :
    CallsIn Fence.wide 4 Tryd.prog 29 #[.int .i64 (n : Int), .slice (some ⟨G, 0, none⟩) 1 c, .slice (some ⟨F, 0, none⟩) m cF] w fun e W' => e = .returned (.int .i64 (nearV n szs L)) ∧ Below w.heap.size w W' := by
  have hGl := hG.lt
  have hcG := hG.cell 0
  simp only [List.getElem?_cons_zero] at hcG
  have hFl := hF.lt
  have HF := Lib.hid (fun (W : World) (hW : Below w.heap.size w W) (p : Nat) (hp : p < szs.length) => (hF.below hW hF.lt).cell hp)
  refine callsIn_of_wp_marks Tryd.func29 rfl trivial ?_ rfl
  simp only [Tryd.ntmps29, List.size_toArray, List.length_cons, List.length_nil, Nat.reduceAdd, Nat.reduceSub, Array.replicate_succ, Array.replicate_zero, List.push_toArray, List.append_toArray, List.nil_append, List.cons_append]
  gi_wp2_with (refine ⟨trivial, ?_⟩; gi_at_call 39; refine (places_in _ _ _ _ _).mono ?_; rintro e w' ⟨rfl, rfl⟩)
  obtain ⟨W0, hW0⟩ : ∃ W0, (((w.alloc (.cells #[.int .i64 (n : Int)] 3)).alloc (.cells #[.slice (some ⟨F, 0, none⟩) m cF] 26)).alloc (.cells #[.int .i64 0] 3)).alloc (.cells #[.slice (some ⟨G, 0, none⟩) 1 c] 54) = W0 := ⟨_, rfl⟩
  have hs0 : W0.heap.size = w.heap.size + 1 + 1 + 1 + 1 := by rw [← hW0]; simp
  have hb0 : Below w.heap.size w W0 := by rw [← hW0]; exact ((((Below.refl _ w).alloc (Nat.le_refl _) _).alloc (by simp) _).alloc (by simp; omega) _).alloc (by simp; omega) _
  have x0 : Boxed W0 w.heap.size 3 (.int .i64 (n : Int)) := by rw [← hW0]; exact (((Boxed.new w 3 _).alloc _).alloc _).alloc _
  have x1 : Boxed W0 (w.heap.size + 1) 26 (.slice (some ⟨F, 0, none⟩) m cF) := by
    have h := Boxed.new (w.alloc (.cells #[.int .i64 (n : Int)] 3)) 26 (.slice (some ⟨F, 0, none⟩) m cF)
    rw [World.size_alloc] at h
    rw [← hW0]
    exact (h.alloc _).alloc _
  have x2 : Boxed W0 (w.heap.size + 1 + 1) 3 (.int .i64 0) := by
    have h := Boxed.new ((w.alloc (.cells #[.int .i64 (n : Int)] 3)).alloc (.cells #[.slice (some ⟨F, 0, none⟩) m cF] 26)) 3 (.int .i64 0)
    rw [World.size_alloc, World.size_alloc] at h
    rw [← hW0]
    exact h.alloc _
  have x3 : Boxed W0 (w.heap.size + 1 + 1 + 1) 54 (.slice (some ⟨G, 0, none⟩) 1 c) := by
    have h := Boxed.new (((w.alloc (.cells #[.int .i64 (n : Int)] 3)).alloc (.cells #[.slice (some ⟨F, 0, none⟩) m cF] 26)).alloc (.cells #[.int .i64 0] 3)) 54 (.slice (some ⟨G, 0, none⟩) 1 c)
    rw [World.size_alloc, World.size_alloc, World.size_alloc] at h
    rw [← hW0]
    exact h
  rw [hW0]
  clear hW0
  have hcell0 : ∀ (i y : Nat), ([x] : List Nat)[i]? = some y → W0.cell? ⟨G, i, none⟩ = some (.int .u64 (y : Int)) := by
    intro i y h
    have hi := (List.getElem?_eq_some_iff.1 h).1
    simp at hi
    subst hi
    simp at h
    subst h
    exact (hb0.cell (p := ⟨G, 0, none⟩) hGl).trans hcG
  have hT0 : Bru W0 := fun j hj => (hb0.cell (p := ⟨_, j, none⟩) hg).trans (hT j hj)
  obtain ⟨hnl, hnd⟩ := getD_of hl hn
  have HFn := Lib.hid (fun (W : World) (hW : Below w.heap.size w W) => HF.out W hW n hnl)
  have hbn := hb _ (List.getElem_mem hnl)
  rw [← hnd] at HFn hbn
  have HP : Hid (∀ p ∈ L, p < m ∧ 0 ≤ szs.getD p 0 ∧ szs.getD p 0 ≤ 1000000 ∧ ∀ W, Below w.heap.size w W → W.cell? ⟨F, p, none⟩ = some (.int .i64 (szs.getD p 0))) := Lib.hid (by
    intro p hp
    obtain ⟨h1, h2⟩ := getD_of hl (hLm p hp)
    rw [h2]
    exact ⟨hLm p hp, (hb _ (List.getElem_mem h1)).1, (hb _ (List.getElem_mem h1)).2, fun W hW => HF.out W hW p h1⟩)
  have HTe : Hid (∀ p, nearT n szs p = (p != n && szs.getD p 0 == szs.getD n 0 - 1)) := Lib.hid fun _ => rfl
  have HNo := Lib.hid (fun h => near_none (n := n) (szs := szs) (L := L) h)
  have HSo := Lib.hid (fun a r p => near_some (n := n) (szs := szs) (a := a) (r := r) (p := p))
  generalize nearT n szs = T at HTe HNo HSo
  generalize hgd : szs.getD n 0 = sn at HFn hbn HTe
  clear hgd hnd HF hcG hLm hG hF hb hT hl hnl
  refine wpIn_rangeFunc_ownG rfl (by omega) (gf := 58) (lb := #[.pointer (some ⟨w.heap.size + 1 + 1 + 1, 0, none⟩)]) rfl trivial (enters_of Tryd.func58 (by kernel_rfl) rfl)
    (places_stops 3 (by omega) (w.heap.size + 1 + 1 + 1) G c w.heap.size 1 [x] L rfl (by omega) (by intro y hy; simp at hy; subst hy; exact hx) hL W0 (by omega) (by omega) hGl (by omega) hg x3.cell hcell0 hT0) belowK_t (belowK_b (by omega)) (Below.refl _ _) (fun _ => rfl)
    (fun pre W => (Boxed W w.heap.size 3 (.int .i64 (n : Int)) ∧ Boxed W (w.heap.size + 1) 26 (.slice (some ⟨F, 0, none⟩) m cF) ∧ Boxed W (w.heap.size + 1 + 1) 3 (.int .i64 0) ∧ ∀ p ∈ pre.map (·.val), T p = false) ∧ Below w.heap.size w W)
    (fun cc pre W => (cc = .ret ∧ ∃ a p, pre.map (·.val) = a ++ [p] ∧ (∀ q ∈ a, T q = false) ∧ T p = true ∧ Boxed W (w.heap.size + 1 + 1) 3 (.int .i64 (p : Int))) ∧ Below w.heap.size w W)
    (OwnFrom.and (Own.from (fun s A B row hs hg hr => ⟨boxed_own _ _ (fun _ => _) s A B row hs.1 hg hr, boxed_own _ _ (fun _ => _) s A B row hs.2.1 hg hr, boxed_own _ _ (fun _ => _) s A B row hs.2.2.1 hg hr, hs.2.2.2⟩) _) (ownFrom_below (Nat.le_refl _) (by omega)))
    (fun cc => OwnFrom.and (Own.from (fun s A B row hs hg hr => by
      obtain ⟨h1, a, p, h2, h3, h4, h5⟩ := hs
      exact ⟨h1, a, p, h2, h3, h4, boxed_own _ _ (fun (_ : Unit) => _) () A B row h5 hg hr⟩) _) (ownFrom_below (Nat.le_refl _) (by omega)))
    ⟨⟨x0, x1, x2, by simp⟩, hb0⟩
    (fun x => { tmps := #[.int .i64 (n : Int), .slice (some ⟨G, 0, none⟩) 1 c, .slice (some ⟨F, 0, none⟩) m cF, .pointer (some ⟨w.heap.size, 0, none⟩), undef, .pointer (some ⟨w.heap.size + 1, 0, none⟩), .pointer (some ⟨w.heap.size + 1 + 1, 0, none⟩), .int .i64 (x.val : Int), .slice (some ⟨G, 0, none⟩) 1 c, .func (.func 58) #[] #[.pointer (some ⟨w.heap.size + 1 + 1 + 1, 0, none⟩)], .int .i64 (x.val : Int), undef, undef, undef, undef, undef, undef, undef, undef, undef, undef, undef, undef, undef, undef, undef, undef], defers := [] }) ?assign ?body ?done ?stop
  case assign =>
    intro l x W K hK
    gi_wp2
    exact hK
  case body =>
    rintro l pre ⟨p, hpL⟩ W ⟨⟨b0, b1, b2, hT⟩, hB⟩ hlt
    have c0 := b0.cell
    have c1 := b1.cell
    have l0 := b0.lt
    have l1 := b1.lt
    have l2 := b2.lt
    have f2 := b2.frozen
    have c2 := b2.cell
    obtain ⟨hpm, hp0, hp1, HPc⟩ := HP.out p hpL
    have cp := HPc W hB
    have cn := HFn.out W hB
    have lF : F < W.heap.size := Nat.lt_of_lt_of_le hFl hB.size
    have hTp := HTe.out p
    generalize szs.getD p 0 = sp at hp0 hp1 cp hTp
    have HBd : Hid (∀ q, Below w.heap.size W (W.drewN q)) := Lib.hid fun q => (Keeps.drewN [] W q).toBelow _ hB.size (by simp)
    have hpi : (p : Int) < (m : Int) := by omega
    have hp0i : (0 : Int) ≤ (p : Int) := by omega
    have hni : (n : Int) < (m : Int) := by omega
    have hn0i : (0 : Int) ≤ (n : Int) := by omega
    have hws : IntKind.i64.wrap (sn - 1) = sn - 1 := IntWalk.i64_in _ (by omega)
    have HGo : Hid (T p = false → ∀ q ∈ (pre ++ [(⟨p, hpL⟩ : Pl L)]).map (·.val), T q = false) := Lib.hid (by
      intro hTf q hq
      rw [List.map_append] at hq
      rcases List.mem_append.1 hq with h | h
      · exact hT q h
      · simp at h; rw [h]; exact hTf)
    have HSt : Hid (T p = true → ∃ a p', (pre ++ [(⟨p, hpL⟩ : Pl L)]).map (·.val) = a ++ [p'] ∧ (∀ q ∈ a, T q = false) ∧ T p' = true ∧ p' = p) := Lib.hid fun h => ⟨pre.map (·.val), p, by simp, hT, h, rfl⟩
    clear HPc
    by_cases hpn : p = n
    · have hpn1 : ((p : Int) != (n : Int)) = false := by simp [hpn]
      have HG2 := Lib.hid (HGo.out (by rw [hTp, hpn]; simp))
      clear hTp hpn HGo HSt
      gi_wp2
      refine region_quiet_round rfl (by kernel_rfl) (by kernel_rfl) (by kernel_rfl) ?_
      repeat (gi_big_quiet_step (fail))
      refine wpQuietIn_nil ?_
      rintro _ ⟨nq, rfl⟩
      gi_wp2
      exact ⟨(keeps_drewN W nq).from _, HBd.out nq, ⟨b0, b1, b2, HG2.out⟩, hB.trans (HBd.out nq)⟩
    · have hpn1 : ((p : Int) != (n : Int)) = true := by simp; omega
      have hpnb : (p != n) = true := by simpa using hpn
      by_cases hs : sp = sn - 1
      · have hs1 : (sp == sn - 1) = true := by simpa using hs
        obtain ⟨aa, pp, h1, h2, h3, rfl⟩ := HSt.out (by rw [hTp, hpnb, hs1]; rfl)
        clear hTp hpn HGo HSt hs hpnb
        gi_wp2
        refine region_quiet_round rfl (by kernel_rfl) (by kernel_rfl) (by kernel_rfl) ?_
        repeat (gi_big_quiet_step (fail))
        refine wpQuietIn_nil ?_
        rintro _ ⟨nq, rfl⟩
        gi_wp2
        have hbs : Boxed ((W.drewN nq).setCell ⟨w.heap.size + 1 + 1, 0, none⟩ (.int .i64 (pp : Int))) (w.heap.size + 1 + 1) 3 (.int .i64 (pp : Int)) := Has.set (cs := [.int .i64 0]) (show Has (W.drewN nq) (w.heap.size + 1 + 1) 3 [.int .i64 0] from b2) 0 (.int .i64 (pp : Int))
        have hk : Below w.heap.size w ((W.drewN nq).setCell ⟨w.heap.size + 1 + 1, 0, none⟩ (.int .i64 (pp : Int))) := (hB.trans (HBd.out nq)).setCell (p := ⟨w.heap.size + 1 + 1, 0, none⟩) (by simp; omega) _
        exact ⟨((keeps_drewN W nq).trans (KeepsOthers.setCell (W.drewN nq) ⟨w.heap.size + 1 + 1, 0, none⟩ (.int .i64 (pp : Int)))).from _, ⟨rfl, aa, pp, h1, h2, h3, hbs⟩, hk⟩
      · have hs1 : (sp == sn - 1) = false := by simpa using hs
        have HG2 := Lib.hid (HGo.out (by rw [hTp, hpnb, hs1]; rfl))
        clear hTp hpn HGo HSt hs hpnb
        gi_wp2
        refine region_quiet_round rfl (by kernel_rfl) (by kernel_rfl) (by kernel_rfl) ?_
        repeat (gi_big_quiet_step (fail))
        refine wpQuietIn_nil ?_
        rintro _ ⟨nq, rfl⟩
        gi_wp2
        exact ⟨(keeps_drewN W nq).from _, HBd.out nq, ⟨b0, b1, b2, HG2.out⟩, hB.trans (HBd.out nq)⟩
  case done =>
    rintro D ys W hD hys ⟨⟨b0, b1, b2, hT⟩, hB⟩ hK
    have l2 := b2.lt
    have f2 := b2.frozen
    have c2 := b2.cell
    have HV : Hid (nearV n szs L = -1) := Lib.hid (HNo.out (by rw [← hys]; exact hT))
    have hbs : Boxed (W.setCell ⟨w.heap.size + 1 + 1, 0, none⟩ (.int .i64 (-1))) (w.heap.size + 1 + 1) 3 (.int .i64 (-1)) := Has.set (cs := [.int .i64 0]) (show Has W (w.heap.size + 1 + 1) 3 [.int .i64 0] from b2) 0 (.int .i64 (-1))
    have hK2 := (KeepsOthers.setCell W ⟨w.heap.size + 1 + 1, 0, none⟩ (.int .i64 (-1))).same D _ hK rfl
    have hk : Below w.heap.size w (W.setCell ⟨w.heap.size + 1 + 1, 0, none⟩ (.int .i64 (-1))) := hB.setCell (p := ⟨w.heap.size + 1 + 1, 0, none⟩) (by simp; omega) _
    gi_wp2
    refine ⟨by simp, .inl ⟨_, _, rfl, run_takeDeferred hK2, ?_⟩⟩
    have hc5 := cell_kept hbs.cell (grownBy_putObj' _ D (.deferred none)) (fun r e => by cases e; exact ⟨_, hK2, rfl⟩)
    refine ⟨.int .i64 (-1), ?_, by rw [HV.out], hk.trans (belowK_b (w := w) (Nat.le_refl _) _ D _ _ (by omega) hK2 rfl rfl)⟩
    simp [results, Tryd.f29, go_sem, hc5]
  case stop =>
    rintro D c' pre W hD hSp ⟨⟨rfl, aa, pp, h1, h2, h3, hbs⟩, hB⟩ hK
    have HV : Hid (nearV n szs L = (pp : Int)) := Lib.hid (by
      obtain ⟨r, hr⟩ := hSp
      have h := HSo.out aa r pp h2 h3
      rw [h1, List.append_assoc] at hr
      rw [← hr]
      exact h)
    gi_wp2
    refine ⟨by simp, .inl ⟨_, _, rfl, run_takeDeferred hK, ?_⟩⟩
    have hc5 := cell_kept hbs.cell (grownBy_putObj' _ D (.deferred none)) (fun r e => by cases e; exact ⟨_, hK, rfl⟩)
    refine ⟨.int .i64 (pp : Int), ?_, by rw [HV.out], hB.trans (belowK_b (w := w) (Nat.le_refl _) _ D _ _ (by omega) hK rfl rfl)⟩
    simp [results, Tryd.f29, go_sem, hc5]
theorem nearest_any (n G c F cF m x : Nat) (szs : List Int) (L : List Nat) (w : World) (hn : n < m) (hG : SetAt w G x) (hx : x < M64) (hF : RowAt w F szs) (hl : szs.length = m) (hb : ∀ z ∈ szs, 0 ≤ z ∧ z ≤ 1000000) (hL : posOf 0 [x] = L) (hLm : ∀ p ∈ L, p < m) (hT : Bru w) (hg : 0 < w.heap.size) :
    Calls Tryd.prog 29 #[.int .i64 (n : Int), .slice (some ⟨G, 0, none⟩) 1 c, .slice (some ⟨F, 0, none⟩) m cF] w fun e W' => e = .returned (.int .i64 (nearV n szs L)) ∧ Below w.heap.size w W' :=
  callsIn_wide.1 (nearest_in n G c F cF m x szs L w hn hG hx hF hl hb hL hLm hT hg)
end FlowD
end Go.Proofs.YtajhkogknpmnbaaDoor
