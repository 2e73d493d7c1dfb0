/- The program's walk of a tree: the visit that calls itself, and what hands it yield. -/
import Derived.Test.YtakdmlaecidjaaaGreatDoorTck20
import Derived.Test.YtakdmlaecidjaaaGreatDoorRound
import Derived.RangeFuncNested
import Derived.RangeFuncBox
import Derived.RangeFuncLeaves
import Derived.RangeFuncCalls
import Derived.OwnWalkIn
import Derived.TacticsInMore
import Derived.LoopNIn
import Derived.LoopIn
import Derived.Laws.EntriesVeiled
namespace Go.Proofs.YtakdmlaecidjaaaGreatDoor
open Go.RowKit Go.Shelf ObjM
namespace TreeD
attribute [local go_sem] Oper.semAt_some

/-- Cells of other types than some stay. -/
def KC (ts : List TypeId) (W W' : World) : Prop := W.heap.size ≤ W'.heap.size ∧ ∀ (k : Nat) (cs : Array Value) (t : TypeId) (fr : Nat × Nat), W.heap[k]? = some (Obj.cells cs t fr) → t ∉ ts → W'.heap[k]? = some (Obj.cells cs t fr)
theorem KC.refl (ts : List TypeId) (W : World) : KC ts W W := ⟨Nat.le_refl _, fun _ _ _ _ h _ => h⟩
theorem KC.trans {ts : List TypeId} {A B C : World} (h : KC ts A B) (k : KC ts B C) : KC ts A C := ⟨Nat.le_trans h.1 k.1, fun x cs t fr hx ht => k.2 x cs t fr (h.2 x cs t fr hx ht) ht⟩
theorem KC.putObj {ts : List TypeId} (W : World) (l : Nat) (o o' : Obj) (h : W.heap[l]? = some o) (ho : o.isCells = false) : KC ts W (W.putObj l o') := by
  refine ⟨by simp, fun k cs t fr hk _ => ?_⟩
  have hne : k ≠ l := by
    rintro rfl
    rw [h] at hk
    injection hk with hk
    subst hk
    cases ho
  exact (World.putObj_heap_other hne).trans hk
theorem KC.has {ts : List TypeId} {W W' : World} {G : Nat} {t : TypeId} {cs : List Value} (h : KC ts W W') (k : Has W G t cs) (ht : t ∉ ts) : Has W' G t cs := h.2 G _ t _ k ht
/-- What a round of the walk's own loop keeps. -/
def KpW (n₀ : Nat) (W W' : World) : Prop := Below n₀ W W' ∧ KC [3, 30] W W'
theorem kpw_t {n₀ : Nat} {A B C : World} (h : KpW n₀ A B) (k : KpW n₀ B C) : KpW n₀ A C := ⟨h.1.trans k.1, h.2.trans k.2⟩
theorem kpw_b {n₀ : Nat} {w : World} (hn : n₀ ≤ w.heap.size) (W : World) (l : Nat) (o o' : Obj) (hl : w.heap.size ≤ l) (h : W.heap[l]? = some o) (h1 : o.isCells = false) (h2 : o.isWalk = false) : KpW n₀ W (W.putObj l o') :=
  ⟨belowK_b hn W l o o' hl h h1 h2, KC.putObj W l o o' h h1⟩
def encP (p : Int × Int) : Array Value := #[Value.int .i64 p.1, Value.int .i64 p.2]
def fnY (lp : Nat) : Value := .func (.yield lp) #[] #[]
def fnV (By Bl Bv : Nat) : Value := .func (.func 27) #[] #[.pointer (some ⟨By, 0, none⟩), .pointer (some ⟨Bl, 0, none⟩), .pointer (some ⟨Bv, 0, none⟩)]
/-- How a visit ends. -/
def VisIs (n₀ : Nat) (J Jx : List (Int × Int) → World → Prop) (W : World) (pre V : List (Int × Int)) (e : Ending) (W' : World) : Prop :=
  (e = .returned (.bool true) ∧ J (pre ++ V) W' ∧ KpW n₀ W W') ∨ (e = .returned (.bool false) ∧ ∃ q, q <+: V ∧ Jx (pre ++ q) W')
theorem takeF_succ {α : Type} {ks : List Int} {f : Int → List α} {r : Nat} (h : r < ks.length) : (ks.take (r + 1)).flatMap f = (ks.take r).flatMap f ++ f ks[r] := by
  rw [List.take_succ_eq_append_getElem h, List.flatMap_append]
  simp
theorem takeF_le {α : Type} {ks : List Int} {f : Int → List α} {r : Nat} (h : r < ks.length) : ((ks.take r).flatMap f).length + (f ks[r]).length ≤ (ks.flatMap f).length := by
  have h1 : ks.flatMap f = (ks.take (r + 1)).flatMap f ++ (ks.drop (r + 1)).flatMap f := by rw [← List.flatMap_append, List.take_append_drop]
  rw [h1, takeF_succ h, List.length_append, List.length_append]
  omega
theorem takeF_pre {α : Type} {ks : List Int} {f : Int → List α} {r : Nat} (h : r < ks.length) {q : List α} (hq : q <+: f ks[r]) : (ks.take r).flatMap f ++ q <+: ks.flatMap f := by
  have h1 : ks.flatMap f = (ks.take (r + 1)).flatMap f ++ (ks.drop (r + 1)).flatMap f := by rw [← List.flatMap_append, List.take_append_drop]
  obtain ⟨s, hs⟩ := hq
  refine ⟨s ++ (ks.drop (r + 1)).flatMap f, ?_⟩
  rw [h1, takeF_succ h, ← hs]
  simp
set_option maxRecDepth 100000 in
set_option maxHeartbeats 4000000 in
theorem visit_in (lp By Bl Bv N m cl : Nat) (al : Option Addr) (w0 : World) (l : List Nd) (hm : l.length = m) (hD : Done l m) (hkl : ∀ n ∈ l, n.kids.length < 1000000)
    (hNds : NdsAt w0 (.slice al m cl) l) (hCap : CapOk w0 (.slice al m cl) l) (J Jx : List (Int × Int) → World → Prop)
    (hY : ∀ k pre x W, J pre W → pre.length < N → YieldAt Fence.wide k Tryz.prog lp (encP x) W fun e W' => (e = .returned (.bool true) ∧ J (pre ++ [x]) W' ∧ KpW w0.heap.size W W') ∨ (e = .returned (.bool false) ∧ Jx (pre ++ [x]) W')) :
    ∀ (b n : Nat) (d : Int) (k : Nat) (pre : List (Int × Int)) (W : World), n < b → b ≤ m → 0 ≤ d → d + (n : Int) < 100000 → J pre W → Below w0.heap.size w0 W → Has W Bl 22 [.slice al m cl] → Has W By 43 [fnY lp] → Has W Bv 43 [fnV By Bl Bv] → pre.length + (visV l b (n : Int) d).length ≤ N →
      CallsIn Fence.wide k Tryz.prog 27 #[.int .i64 (n : Int), .int .i64 d, .pointer (some ⟨By, 0, none⟩), .pointer (some ⟨Bl, 0, none⟩), .pointer (some ⟨Bv, 0, none⟩)] W (VisIs w0.heap.size J Jx W pre (visV l b (n : Int) d)) := by
  intro b
  induction b with
  | zero =>
    intro n d k pre W h
    omega
  | succ b ih =>
    intro n d k pre W hn hb hd hdn hJ hB hBl hBy hBv hN
    obtain ⟨n₀, hn0⟩ : ∃ n₀, w0.heap.size = n₀ := ⟨_, rfl⟩
    rw [hn0] at hY ih hB ⊢
    have hnl : n < l.length := by omega
    have hkk := kids_low hD (show n < m by omega) (by omega)
    obtain ⟨ks, hks⟩ : ∃ ks, (ndAt l (n : Int)).kids = ks := ⟨_, rfl⟩
    have hV : visV l (b + 1) (n : Int) d = ((n : Int), d) :: ks.flatMap fun k => visV l b k (d + 1) := by
      rw [← hks]
      rfl
    rw [hV] at hN ⊢
    rw [hks] at hkk
    simp only [List.length_cons] at hN
    obtain ⟨nk, hnk⟩ : ∃ nk, ks.length = nk := ⟨_, rfl⟩
    have hnd : ndAt l (n : Int) = l[n] := ndAt_q hnl
    obtain ⟨b0, o, kv, rfl, e2, f0, f1, f2, f3, f4⟩ := hNds.at n hnl
    rw [← hnd, hks] at f4
    obtain ⟨ka, kc, rfl⟩ := f4.shape
    rw [hnk] at f2 f4
    have hkc : nk ≤ kc := hCap b0 o m cl rfl n hnl _ _ _ f2
    have HNode : Hid (∀ W1, Below n₀ w0 W1 → W1.cell? ⟨b0, o + n * 4 + 2, none⟩ = some (.slice ka nk kc) ∧ KidsAt W1 (.slice ka nk kc) ks) := Lib.hid (by
      intro W1 h1
      exact ⟨(h1.cell (p := ⟨b0, _, none⟩) (by rw [← hn0]; exact e2)).trans f2, f4.below (by rw [hn0]; exact Nat.le_refl _) h1⟩)
    have hnk6 : nk < 1000000 := by
      have := hkl _ (List.getElem_mem hnl)
      rw [← hnd, hks, hnk] at this
      exact this
    have HNk := Lib.hid hnk
    have HB := Lib.hid hB
    have HIH : Hid (∀ (r : Nat) (hr : r < ks.length) (pre2 : List (Int × Int)) (W1 : World), J pre2 W1 → KpW n₀ W W1 → pre2.length + (visV l b ks[r] (d + 1)).length ≤ N → Calls Tryz.prog 27 #[.int .i64 ks[r], .int .i64 (d + 1), .pointer (some ⟨By, 0, none⟩), .pointer (some ⟨Bl, 0, none⟩), .pointer (some ⟨Bv, 0, none⟩)] W1 (VisIs n₀ J Jx W1 pre2 (visV l b ks[r] (d + 1)))) := Lib.hid (by
      intro r hr pre2 W1 hj h1 hlen
      have hx := hkk _ (List.getElem_mem hr)
      obtain ⟨q, hq⟩ : ∃ q : Nat, ks[r] = (q : Int) := ⟨ks[r].toNat, by omega⟩
      rw [hq] at hlen ⊢
      exact callsIn_wide.1 (ih q (d + 1) 0 pre2 W1 (by omega) (by omega) (by omega) (by omega) hj (hB.trans h1.1) (h1.2.has hBl (by decide +kernel)) (h1.2.has hBy (by decide +kernel)) (h1.2.has hBv (by decide +kernel)) hlen))
    have HBox : Hid (∀ W1, KpW n₀ W W1 → Has W1 Bv 43 [fnV By Bl Bv]) := Lib.hid fun W1 h1 => h1.2.has hBv (by decide +kernel)
    have HBl : Hid (∀ W1, KpW n₀ W W1 → Has W1 Bl 22 [.slice (some ⟨b0, o, none⟩) m cl]) := Lib.hid fun W1 h1 => h1.2.has hBl (by decide +kernel)
    have hdd : ∀ k : Nat, (Fence.wide.depth.isSome = true → 1 ≤ k) := fun k h => by cases h
    have cy := hBy.cell 0
    simp only [List.getElem?_cons_zero, fnY] at cy
    obtain ⟨fn, tmps, assign, body, hy, hR⟩ := hY (k - 1) pre ((n : Int), d) W hJ (by omega)
    simp only [encP] at hy
    have HLN : Hid (pre.length + ((ks.flatMap fun k => visV l b k (d + 1)).length + 1) ≤ N) := Lib.hid hN
    have hdw : IntKind.i64.wrap (d + 1) = d + 1 := IntWalk.i64_in _ (by omega)
    have hnm : (n : Int) < (m : Int) := by omega
    have hn0i : (0 : Int) ≤ (n : Int) := by omega
    clear hks hV hN hnd hnk hkk ih hBy hBv hB hJ hkl hD hb hNds hCap hBl e2 f0 f1 f2 f3 f4 hm hn0 hY
    refine callsIn_of_wp Tryz.func27 rfl trivial ?_ rfl
    simp only [Tryz.ntmps27, List.size_toArray, List.length_cons, List.length_nil, Nat.reduceAdd, Nat.reduceSub, Array.replicate_succ, Array.replicate_zero, List.push_toArray, List.append_toArray, List.nil_append, List.cons_append]
    gi_wp2_with fail
    try refine ⟨hdd _, ?_⟩
    refine hR.mono ?_
    clear hR hy cy
    rintro e W1 (⟨rfl, hJ1, hk1⟩ | ⟨rfl, hx1⟩)
    · obtain ⟨c2, hKa⟩ := HNode.out W1 (HB.out.trans hk1.1)
      have cB := (HBl.out W1 hk1).cell 0
      simp only [List.getElem?_cons_zero] at cB
      have HJ1 : Hid (J (pre ++ (((n : Int), d) :: (ks.take 0).flatMap fun k => visV l b k (d + 1))) W1) := Lib.hid hJ1
      have HK1 := Lib.hid hk1
      clear hJ1 hk1 hKa
      gi_wp2
      clear c2 cB
      gi_loopw [21] (fun i wr => ∃ r : Nat, i = .int .i64 (r : Int) ∧ r ≤ nk ∧ Hid (J (pre ++ (((n : Int), d) :: (ks.take r).flatMap fun k => visV l b k (d + 1))) wr) ∧ Hid (KpW n₀ W wr)) (fun i _ => nk - (intOf i).toNat)
      case atStart => exact ⟨0, rfl, by omega, HJ1, HK1⟩
      case round =>
        obtain ⟨r, rfl, hr, HJr, HKr⟩ := hrel
        clear HJ1 HK1
        by_cases hlt : r < nk
        · have hi1 : (r : Int) < (nk : Int) := by omega
          have hi0 : (0 : Int) ≤ (r : Int) := by omega
          have hrl : r < ks.length := by rw [HNk.out]; exact hlt
          obtain ⟨g, o2, rfl, -, c1⟩ := (HNode.out wr (HB.out.trans HKr.out.1)).2.at r hrl
          have c4 := (HBox.out wr HKr.out).cell 0
          simp only [List.getElem?_cons_zero, fnV] at c4
          have HC := Lib.hid (HIH.out r hrl _ wr HJr.out HKr.out (by
            have := takeF_le (f := fun k => visV l b k (d + 1)) hrl
            have := HLN.out
            rw [List.length_append, List.length_cons]
            omega))
          have HNext : Hid (∀ W2, J ((pre ++ (((n : Int), d) :: (ks.take r).flatMap fun k => visV l b k (d + 1))) ++ visV l b ks[r] (d + 1)) W2 → KpW n₀ wr W2 → J (pre ++ (((n : Int), d) :: (ks.take (r + 1)).flatMap fun k => visV l b k (d + 1))) W2 ∧ KpW n₀ W W2) := Lib.hid fun W2 h1 h2 => ⟨by
            rw [takeF_succ hrl]
            simpa using h1, kpw_t HKr.out h2⟩
          have HStop : Hid (∀ q W2, q <+: visV l b ks[r] (d + 1) → Jx ((pre ++ (((n : Int), d) :: (ks.take r).flatMap fun k => visV l b k (d + 1))) ++ q) W2 → VisIs n₀ J Jx W pre (((n : Int), d) :: ks.flatMap fun k => visV l b k (d + 1)) (.returned (.bool false)) W2) := Lib.hid fun q W2 h1 h2 => .inr ⟨rfl, ((n : Int), d) :: ((ks.take r).flatMap (fun k => visV l b k (d + 1)) ++ q), by
            obtain ⟨s, hs⟩ := takeF_pre (f := fun k => visV l b k (d + 1)) hrl h1
            exact ⟨s, by rw [List.cons_append, hs]⟩, by simpa using h2⟩
          generalize ks[r] = x at c1 HC HNext HStop
          generalize visV l b x (d + 1) = V at HC HNext HStop
          clear hrl hr
          gi_wp2_with fail
          refine ⟨trivial, hdd _, ?_⟩
          refine (callsIn_wide.2 HC.out).mono ?_
          rintro e W2 (⟨rfl, hJ2, hk2⟩ | ⟨rfl, q, hq, hx2⟩)
          · have HN2 := Lib.hid (HNext.out W2 hJ2 hk2)
            clear HC HNext HStop hJ2 hk2
            gi_wp2
            go_roundw
            case rel => exact ⟨r + 1, by go_num, by omega, Lib.hid HN2.out.1, Lib.hid HN2.out.2⟩
            case measure => simp [intOf]; omega
          · have HS2 := Lib.hid (HStop.out q W2 hq hx2)
            clear HC HNext HStop hq hx2
            gi_wp2
            go_ret
            exact HS2.out
        · have hrn : r = nk := by omega
          subst hrn
          have HF : Hid (VisIs n₀ J Jx W pre (((n : Int), d) :: ks.flatMap fun k => visV l b k (d + 1)) (.returned (.bool true)) wr) := Lib.hid (.inl ⟨rfl, by
            have h := HJr.out
            rw [List.take_of_length_le (by rw [HNk.out]; exact Nat.le_refl _)] at h
            exact h, HKr.out⟩)
          clear HJr HKr
          gi_wp2
          go_ret
          exact HF.out
    · have HF : Hid (VisIs n₀ J Jx W pre (((n : Int), d) :: ks.flatMap fun k => visV l b k (d + 1)) (.returned (.bool false)) W1) := Lib.hid (.inr ⟨rfl, [((n : Int), d)], ⟨_, rfl⟩, hx1⟩)
      clear hx1
      gi_wp2
      go_ret
      exact HF.out
end TreeD
end Go.Proofs.YtakdmlaecidjaaaGreatDoor

namespace Go.Proofs.YtakdmlaecidjaaaGreatDoor
open Go.RowKit Go.Shelf ObjM
namespace TreeD
attribute [local go_sem] Oper.semAt_some

theorem preorder_in (n : Nat) (a : Option Addr) (k c : Nat) (w : World) :
    CallsIn Fence.wide n Tryz.prog 19 #[.slice a k c] w fun e w' => e = .returned (.func (.func 26) #[] #[.pointer (some ⟨w.heap.size, 0, none⟩)]) ∧ w' = w.alloc (.cells #[.slice a k c] 22) := by
  refine callsIn_of_wp Tryz.func19 rfl trivial ?_ rfl
  simp only [Tryz.ntmps19, List.size_toArray, List.length_cons, List.length_nil, Nat.reduceAdd, Nat.reduceSub, Array.replicate_succ, Array.replicate_zero, List.push_toArray, List.append_toArray, List.nil_append, List.cons_append]
  gi_wp2
  go_ret
  exact ⟨rfl, rfl⟩
theorem grown_none {W W' : World} (h : Below W.heap.size W W') : W.grownBy W' none := ⟨h.os, h.tape, h.output, h.size, fun k hk _ => h.block k hk⟩
theorem walkV_nil : walkV [] = [] := rfl
/-- What a list that is none, or a tree, is. -/
def TreeOr (l : List Nd) : Prop := l = [] ∨ IsTree l
set_option maxRecDepth 100000 in
set_option maxHeartbeats 4000000 in
theorem pre1_in (n lp Bl m cl : Nat) (al : Option Addr) (w0 : World) (l : List Nd) (hm : l.length = m) (hm5 : m ≤ 50000) (hT : TreeOr l) (hkl : ∀ n ∈ l, n.kids.length < 1000000)
    (hNds : NdsAt w0 (.slice al m cl) l) (hCap : CapOk w0 (.slice al m cl) l) (J Jx : List (Int × Int) → World → Prop) (W : World) (hJ : AbidesFrom W.heap.size J)
    (hY : ∀ pre x W, J pre W → pre.length < (walkV l).length → YieldAt Fence.wide (n - 1) Tryz.prog lp (encP x) W fun e W' => (e = .returned (.bool true) ∧ J (pre ++ [x]) W' ∧ KpW w0.heap.size W W') ∨ (e = .returned (.bool false) ∧ Jx (pre ++ [x]) W'))
    (hB : Below w0.heap.size w0 W) (hBl : Has W Bl 22 [.slice al m cl]) (h0 : J [] W) :
    CallsIn Fence.wide n Tryz.prog 26 #[fnY lp, .pointer (some ⟨Bl, 0, none⟩)] W fun e W' => (∃ v, e = .returned v) ∧ ((∃ ys, ys = walkV l ∧ J ys W') ∨ (∃ pre, pre <+: walkV l ∧ Jx pre W')) := by
  have HW : Hid (Has ((W.alloc (.cells #[fnY lp] 43)).alloc (.cells #[fnV W.heap.size Bl (W.heap.size + 1)] 43)) W.heap.size 43 [fnY lp] ∧ Has ((W.alloc (.cells #[fnY lp] 43)).alloc (.cells #[fnV W.heap.size Bl (W.heap.size + 1)] 43)) (W.heap.size + 1) 43 [fnV W.heap.size Bl (W.heap.size + 1)] ∧ Below W.heap.size W ((W.alloc (.cells #[fnY lp] 43)).alloc (.cells #[fnV W.heap.size Bl (W.heap.size + 1)] 43))) := Lib.hid (by
    have b1 := Has.new W 43 [fnY lp]
    have b2 := Has.new (W.alloc (.cells #[fnY lp] 43)) 43 [fnV W.heap.size Bl (W.heap.size + 1)]
    simp only [World.size_alloc] at b2
    have hA1 : Below W.heap.size W (W.alloc (.cells #[fnY lp] 43)) := (Below.refl _ W).alloc (Nat.le_refl _) _
    have hA2 : Below (W.heap.size + 1) (W.alloc (.cells #[fnY lp] 43)) ((W.alloc (.cells #[fnY lp] 43)).alloc (.cells #[fnV W.heap.size Bl (W.heap.size + 1)] 43)) := (Below.refl _ _).alloc (by simp) _
    exact ⟨b1.below hA2 (by omega), b2, hA1.trans (hA2.mono (by omega))⟩)
  have cb := hBl.cell 0
  have lb := hBl.lt
  simp only [List.getElem?_cons_zero] at cb
  have hdd : ∀ k : Nat, (Fence.wide.depth.isSome = true → 1 ≤ k) := fun k h => by cases h
  have HD : Hid (∀ (W3 : World), Has W3 W.heap.size 43 [fnY lp] → Has W3 (W.heap.size + 1) 43 [fnV W.heap.size Bl (W.heap.size + 1)] → Below W.heap.size W W3 → 0 < m →
      Calls Tryz.prog 27 #[.int .i64 ((m : Int) - 1), .int .i64 0, .pointer (some ⟨W.heap.size, 0, none⟩), .pointer (some ⟨Bl, 0, none⟩), .pointer (some ⟨W.heap.size + 1, 0, none⟩)] W3 (VisIs w0.heap.size J Jx W3 [] (walkV l))) := Lib.hid (by
    intro W3 h1 h2 h3 hpos
    have hT2 : IsTree l := hT.resolve_left (fun e => by rw [e] at hm; simp at hm; omega)
    have h := visit_in lp W.heap.size Bl (W.heap.size + 1) (walkV l).length m cl al w0 l hm (hm ▸ hT2.done) hkl hNds hCap J Jx (fun k pre x W4 hj hl => by
      obtain ⟨fn, tmps, assign, body, hy, hR⟩ := hY pre x W4 hj hl
      exact ⟨fn, tmps, assign, body, hy, hR.1, fun c cs _ => hR.2 c cs (fun d h => by cases h)⟩) m (m - 1) 0 0 [] W3 (by omega) (Nat.le_refl _) (by omega) (by omega)
      (hJ [] W W3 none h0 (grown_none h3) (fun r e => by cases e)) (hB.trans (h3.mono hB.size)) (hBl.below h3 hBl.lt) h1 h2 (by
        have e : ((m - 1 : Nat) : Int) = (l.length : Int) - 1 := by omega
        rw [e, ← hm]
        exact Nat.le_of_eq (by simp [walkV]))
    have e : ((m - 1 : Nat) : Int) = (m : Int) - 1 := by omega
    have e2 : walkV l = visV l m ((m : Int) - 1) 0 := by unfold walkV; rw [hm]
    rw [e] at h
    rw [e2]
    rw [← e2] at h ⊢
    exact callsIn_wide.1 h)
  have HN : Hid (∀ W3 : World, Below W.heap.size W W3 → m = 0 → (∃ ys, ys = walkV l ∧ J ys W3)) := Lib.hid fun W3 h1 h2 => by
    have hl : l = [] := List.length_eq_zero_iff.1 (by omega)
    exact ⟨[], by rw [hl]; rfl, hJ [] W W3 none h0 (grown_none h1) (fun r e => by cases e)⟩
  have hms : IntKind.i64.wrap ((m : Int) - 1) = (m : Int) - 1 := IntWalk.i64_in _ (by omega)
  simp only [fnY, fnV] at HW HD HN ⊢
  clear hBl hB hY hJ h0 hT hkl hNds hCap
  by_cases hz : m = 0
  · have hz1 : ¬ ((0 : Int) < (m : Int)) := by omega
    have HN2 := Lib.hid (HN.out _ HW.out.2.2 hz)
    clear HN HD HW
    refine callsIn_of_wp Tryz.func26 rfl trivial ?_ rfl
    simp only [Tryz.ntmps26, List.size_toArray, List.length_cons, List.length_nil, Nat.reduceAdd, Nat.reduceSub, Array.replicate_succ, Array.replicate_zero, List.push_toArray, List.append_toArray, List.nil_append, List.cons_append]
    gi_wp2
    go_end0
    obtain ⟨ys, rfl, hj⟩ := HN2.out
    exact ⟨⟨_, rfl⟩, .inl hj⟩
  · have hz1 : (0 : Int) < (m : Int) := by omega
    have HD2 := Lib.hid (HD.out _ HW.out.1 HW.out.2.1 HW.out.2.2 (by omega))
    have cv := HW.out.2.1.cell 0
    simp only [List.getElem?_cons_zero] at cv
    clear HN HD HW
    refine callsIn_of_wp Tryz.func26 rfl trivial ?_ rfl
    simp only [Tryz.ntmps26, List.size_toArray, List.length_cons, List.length_nil, Nat.reduceAdd, Nat.reduceSub, Array.replicate_succ, Array.replicate_zero, List.push_toArray, List.append_toArray, List.nil_append, List.cons_append]
    gi_wp2_with fail
    refine ⟨trivial, hdd _, ?_⟩
    refine (callsIn_wide.2 HD2.out).mono ?_
    rintro e W2 (⟨rfl, hJ2, hk2⟩ | ⟨rfl, q, hq, hx2⟩)
    · have HE : Hid (∃ ys, ys = walkV l ∧ J ys W2) := Lib.hid ⟨_, rfl, by simpa using hJ2⟩
      clear HD2 hJ2 hk2
      gi_wp2
      go_end0
      obtain ⟨ys, rfl, hj⟩ := HE.out
      exact ⟨⟨_, rfl⟩, .inl ⟨_, rfl, hj⟩⟩
    · have HE : Hid (∃ pre, pre <+: walkV l ∧ Jx pre W2) := Lib.hid ⟨q, hq, by simpa using hx2⟩
      clear HD2 hq hx2
      gi_wp2
      go_end0
      exact ⟨⟨_, rfl⟩, .inr HE.out⟩
theorem pre_stops (n Bl m cl : Nat) (al : Option Addr) (w0 w : World) (l : List Nd) (hm : l.length = m) (hm5 : m ≤ 50000) (hT : TreeOr l) (hkl : ∀ n ∈ l, n.kids.length < 1000000) (hNds : NdsAt w0 (.slice al m cl) l) (hCap : CapOk w0 (.slice al m cl) l) (hB : Below w0.heap.size w0 w) (hBl : Has w Bl 22 [.slice al m cl]) :
    SeqStopsK Fence.wide n Tryz.prog 26 #[.pointer (some ⟨Bl, 0, none⟩)] encP (KpW w0.heap.size) (fun ys => ys = walkV l) (fun pre => pre <+: walkV l) (walkV l).length w := fun lp J Jx W hW hJ _ hY h0 =>
  pre1_in n lp Bl m cl al w0 l hm hm5 hT hkl hNds hCap J Jx W hJ hY (hB.trans (hW.mono hB.size)) (hBl.below hW hBl.lt) h0
end TreeD
end Go.Proofs.YtakdmlaecidjaaaGreatDoor
