/- How far was read; whether calls are few; whether events are alike. -/
import Derived.Test.YteohgacblilfmaaWorld5
import Derived.Test.YteohgacblilfmaaStoreAll
import Derived.Test.YteohgacblilfmaaWorldIn
import Derived.Deep.WholeRow
namespace Go.Proofs.Yteohgacblilfmaa
open Go.RowKit ObjM Shell Go.ChangeShapes Go.WideShapes Go.Deep
namespace WorldD
open LabelM LabelD TraceD

theorem aggCh (w : World) : (isAgg 56).run Try.prog w = .ok true w := by kernel_rfl
theorem sizeCh (w : World) : (sizeOf 56).run Try.prog w = .ok 3 w := by kernel_rfl
theorem index_ch (l : List Ch) (k : Nat) (c : Ch) (hc : l[k]? = some c) (hk : k < 8) (W : World) : Sem.run Try.prog (Instr.index 57 (.agg (rowC l).toArray) (.int .i64 (k : Int))) W = .ok (.agg #[.int .u64 (c.m : Int), c.v, .int .i64 (c.n : Int)]) W := by
  have h0 := rowC_at l k c hc 0 (by omega)
  have h1 := rowC_at l k c hc 1 (by omega)
  have h2 := rowC_at l k c hc 2 (by omega)
  simp [Ch.cells] at h0 h1 h2
  have hlt : k < l.length := (List.getElem?_eq_some_iff.1 hc).1
  have hx : (rowC l).toArray.extract (k * 3) (k * 3 + 3) = #[.int .u64 (c.m : Int), c.v, .int .i64 (c.n : Int)] := by
    apply Array.ext'
    simp only [List.extract_toArray, List.extract_eq_take_drop]
    have e : k * 3 + 3 - k * 3 = 3 := by omega
    rw [e]
    apply List.ext_getElem?
    intro i
    rw [List.getElem?_take]
    split
    · rename_i hi
      rw [List.getElem?_drop]
      match i, hi with
      | 0, _ => simpa using h0
      | 1, _ => simpa using h1
      | 2, _ => simpa using h2
    · rename_i hi
      rw [List.getElem?_eq_none (by simp; omega)]
  have hki : (0 : Int) ≤ (k : Int) ∧ (k : Int) < 8 := by omega
  have hx' : (List.take 3 (List.drop (k * 3) (rowC l))).toArray = #[Value.int .u64 (c.m : Int), c.v, Value.int .i64 (c.n : Int)] := by
    rw [← hx]
    simp [List.extract_eq_take_drop]
  simp [Instr.index, asIntOf, Sem.run_bind, Result.andThen, run_underlying Try.underlying57, part, hki, hx']
  intro h
  omega
/-- How far the first k are read. -/
def plV (f : Nat → Nat) (k : Nat) : List Value := (List.range 8).map fun j => Value.int .i64 (if j < k then (f j : Int) else 0)
theorem plV_set (f : Nat → Nat) (k : Nat) (hk : k < 8) : (plV f k).set k (.int .i64 (f k : Int)) = plV f (k + 1) := by
  apply List.ext_getElem?
  intro i
  unfold plV
  by_cases e : k = i
  · subst e
    rw [List.getElem?_set_self (by simpa using hk), List.getElem?_map, List.getElem?_range hk]
    simp
  · rw [List.getElem?_set_ne e, List.getElem?_map, List.getElem?_map]
    by_cases hi : i < 8
    · rw [List.getElem?_range hi]
      simp only [Option.map_some]
      by_cases h : i < k
      · rw [if_pos h, if_pos (by omega)]
      · rw [if_neg h, if_neg (by omega)]
    · rw [List.getElem?_eq_none (by simp; omega)]
      rfl
theorem plV_len (f : Nat → Nat) (k : Nat) : (plV f k).length = 8 := by simp [plV]
theorem plV_one (f : Nat → Nat) (k : Nat) : ∀ v ∈ plV f k, v.oneCell' = true := by
  intro v hv
  obtain ⟨j, -, rfl⟩ := List.mem_map.1 hv
  simp [Value.oneCell']
def nAt (l : List Ch) (j : Nat) : Nat := (l.map Ch.n).getD j 0
theorem nAt_of {l : List Ch} {k : Nat} {c : Ch} (h : l[k]? = some c) : nAt l k = c.n := by simp [nAt, List.getD_eq_getElem?_getD, h]
theorem rowC_one {w : World} {B : Nat} {l : List Ch} (h : ∀ c ∈ l, ChOk w B c) : ∀ u ∈ rowC l, u.oneCell' = true := by
  intro u hu
  obtain ⟨c, hc, h1⟩ := List.mem_flatMap.1 hu
  obtain ⟨av, cp, hv⟩ := own_slice (h c hc).2.2.2
  simp [Ch.cells, hv] at h1
  rcases h1 with rfl | rfl | rfl <;> simp [Value.oneCell']
theorem infoCh8s : (Try.prog.info? 57).map (·.size) = some 24 := by kernel_rfl
theorem infoI8s : (Try.prog.info? 34).map (·.size) = some 8 := by kernel_rfl
theorem aggI8 (w : World) : (isAgg 34).run Try.prog w = .ok true w := by kernel_rfl
theorem sizeI8 (w : World) : (sizeOf 34).run Try.prog w = .ok 8 w := by kernel_rfl
def PlacesIs (w : World) (l : List Ch) (e : Ending) (w' : World) : Prop := e = .returned (.agg (plV (nAt l) 8).toArray) ∧ Below w.heap.size w w'

set_option maxRecDepth 100000 in
set_option maxHeartbeats 4000000 in
theorem places_any (B G : Nat) (l : List Ch) (ev : List Ev) (w : World) (hI : IsW w B G l ev) : Calls Try.prog 15 #[.pointer (some ⟨G, 0, none⟩)] w (PlacesIs w l) := by
  obtain ⟨sv, hG, hO, hBG, hl8, hok⟩ := hI
  have hone := rowC_one hok
  have HSH := Lib.hid (fun (k : Nat) (c : Ch) (hc : l[k]? = some c) => own_slice (hok c (List.mem_of_getElem? hc)).2.2.2)
  have hlr : (rowC l).length = 24 := by rw [rowC_len, hl8]
  have r0 := (Has.new w 34 [.int .i64 0, .int .i64 0, .int .i64 0, .int .i64 0, .int .i64 0, .int .i64 0, .int .i64 0, .int .i64 0]).keepsT ((KeepsT.refl [] _).alloc (.cells #[.int .i64 0, .int .i64 0, .int .i64 0, .int .i64 0, .int .i64 0, .int .i64 0, .int .i64 0, .int .i64 0] 34)) (by simp)
  have r1 := Has.new (w.alloc (.cells #[.int .i64 0, .int .i64 0, .int .i64 0, .int .i64 0, .int .i64 0, .int .i64 0, .int .i64 0, .int .i64 0] 34)) 34 [.int .i64 0, .int .i64 0, .int .i64 0, .int .i64 0, .int .i64 0, .int .i64 0, .int .i64 0, .int .i64 0]
  simp only [World.size_alloc] at r1
  have rG := (hG.keepsT ((KeepsT.refl [] _).alloc (.cells #[.int .i64 0, .int .i64 0, .int .i64 0, .int .i64 0, .int .i64 0, .int .i64 0, .int .i64 0, .int .i64 0] 34)) (by simp)).keepsT ((KeepsT.refl [] _).alloc (.cells #[.int .i64 0, .int .i64 0, .int .i64 0, .int .i64 0, .int .i64 0, .int .i64 0, .int .i64 0, .int .i64 0] 34)) (by simp)
  have rB : Below w.heap.size w ((w.alloc (.cells #[.int .i64 0, .int .i64 0, .int .i64 0, .int .i64 0, .int .i64 0, .int .i64 0, .int .i64 0, .int .i64 0] 34)).alloc (.cells #[.int .i64 0, .int .i64 0, .int .i64 0, .int .i64 0, .int .i64 0, .int .i64 0, .int .i64 0, .int .i64 0] 34)) := ((Below.refl _ w).alloc (Nat.le_refl _) _).alloc (by simp) _
  have HIX := Lib.hid (fun (k : Nat) (c : Ch) (hc : l[k]? = some c) (hk : k < 8) => index_ch l k c hc hk)
  clear hO hok hG
  obtain ⟨W2, hW2⟩ : ∃ x, (w.alloc (.cells #[.int .i64 0, .int .i64 0, .int .i64 0, .int .i64 0, .int .i64 0, .int .i64 0, .int .i64 0, .int .i64 0] 34)).alloc (.cells #[.int .i64 0, .int .i64 0, .int .i64 0, .int .i64 0, .int .i64 0, .int .i64 0, .int .i64 0, .int .i64 0] 34) = x := ⟨_, rfl⟩
  have HW2 := Lib.hid hW2
  rw [hW2] at r0 r1 rG rB
  have hz2 : W2.heap.size = w.heap.size + 1 + 1 := by rw [← hW2]; simp
  clear hW2
  have hld1 := Lib.hid (run_load_all (T := 57) (i0 := 0) (bs := []) (ds := [sv]) 24 (aggCh8 W2) (sizeCh8 W2) (by simpa using rG) rfl hlr)
  have h1 := r1.lt
  have hC := Has.new W2 57 (rowC l)
  have hst := Lib.hid (fun (c : Array Value) (hc : c.size = 24) => run_storeAt_new (P := Try.prog) W2 57 c (rowC l).toArray (by rw [infoCh8s]; simp [hlr]) (by simp [hc, hlr]) (by
    rw [Array.all_eq_true_iff_forall_mem]
    intro v hv
    exact hone v (by simpa using hv)))
  have hld2 := Lib.hid (run_load_all (T := 57) (i0 := 0) (bs := []) (ds := []) 24 (aggCh8 (W2.alloc (.cells (rowC l).toArray 57))) (sizeCh8 _) (by simpa using hC) rfl hlr)
  have R0 := Lib.hid (r0.keepsT ((KeepsT.refl [] W2).alloc (.cells (rowC l).toArray 57)) (by simp))
  have R1 := Lib.hid (r1.keepsT ((KeepsT.refl [] W2).alloc (.cells (rowC l).toArray 57)) (by simp))
  have RB := Lib.hid (rB.alloc rB.size (.cells (rowC l).toArray 57))
  rw [hz2] at hst hld2
  rw [← HW2.out] at hld1 hst hld2
  clear hC rG r0 r1 rB hone hz2
  go_enter Try.func15, Try.ntmps15
  go_wp2_with (first
    | (refine wpList_load_run rfl (.tmp 12) 57 rfl _ _ rfl hld1.out ?_)
    | (refine wpList_store_run rfl (.tmp 4) (.tmp 13) 57 rfl _ _ rfl rfl _ (hst.out _ rfl) ?_)
    | (refine wpList_load_run rfl (.tmp 4) 57 rfl _ _ rfl hld2.out ?_))
  rw [HW2.out]
  change Hid (Has _ _ _ (plV (nAt l) 0)) at R1
  generalize World.alloc W2 _ = W3 at R0 R1 RB ⊢
  clear hld1 hst hld2 HW2
  go_loopw [15] (fun i wr => ∃ k : Nat, i = .int .i64 k ∧ k ≤ 8 ∧ Hid (Has wr (w.heap.size + 1) 34 (plV (nAt l) k)) ∧ Hid (Has wr w.heap.size 34 [.int .i64 0, .int .i64 0, .int .i64 0, .int .i64 0, .int .i64 0, .int .i64 0, .int .i64 0, .int .i64 0]) ∧ Hid (Below w.heap.size w wr)) (fun i _ => 8 - (intOf i).toNat)
  case atStart => exact ⟨0, rfl, by omega, R1, R0, RB⟩
  case round =>
    obtain ⟨k, rfl, hk, HP, HR, HB⟩ := hrel
    have hlp := HP.out.lt
    by_cases hk8 : k < 8
    · have hk8i : (k : Int) < 8 := by omega
      have hk0i : (0 : Int) ≤ (k : Int) := by omega
      obtain ⟨c, hc⟩ : ∃ c, l[k]? = some c := ⟨_, List.getElem?_eq_getElem (by omega)⟩
      have hix := HIX.out k c hc hk8
      obtain ⟨av, cp, hv⟩ := HSH.out k c hc
      have HN := Lib.hid (nAt_of hc)
      have p0 : wr.cell? ⟨w.heap.size + 1, k, none⟩ = some (.int .i64 0) := by
        rw [HP.out.cell]
        unfold plV
        rw [List.getElem?_map, List.getElem?_range hk8]
        simp
      have pf := HP.out.frozen k
      rw [hv] at hix
      obtain ⟨m, v, xs, n⟩ := c
      simp only at hix hv HN
      clear hc hv
      go_wp2
      have hp1 := HP.out.set k (.int .i64 (n : Int))
      have hp2 : Has (wr.setCell ⟨w.heap.size + 1, k, none⟩ (.int .i64 (n : Int))) (w.heap.size + 1) 34 (plV (nAt l) (k + 1)) := by
        have e := plV_set (nAt l) k hk8
        rw [HN.out] at e
        rw [← e]
        exact hp1
      have HP2 := Lib.hid (hp2.keepsT ((KeepsT.refl [] _).alloc (.cells #[.int .u64 (m : Int), .slice av xs.length cp, .int .i64 (n : Int)] 56)) (by simp))
      have HR2 := Lib.hid ((HR.out.keeps (Keeps.set _ (w.heap.size + 1) k (.int .i64 (n : Int))) (by simp)).keepsT ((KeepsT.refl [] _).alloc (.cells #[.int .u64 (m : Int), .slice av xs.length cp, .int .i64 (n : Int)] 56)) (by simp))
      have HB2 := Lib.hid ((HB.out.setCell (p := ⟨w.heap.size + 1, k, none⟩) (by simp) (.int .i64 (n : Int))).alloc (by have := HB.out.size; simpa [World.setCell] using this) (.cells #[.int .u64 (m : Int), .slice av xs.length cp, .int .i64 (n : Int)] 56))
      go_roundw
      case rel => exact ⟨k + 1, by go_num, by omega, HP2, HR2, HB2⟩
      case measure => simp [intOf]; omega
    · obtain rfl : k = 8 := by omega
      have hlt2 : ¬ ((8 : Nat) : Int) < 8 := by omega
      have hld := Lib.hid (run_load_all (T := 34) (i0 := 0) (bs := []) (ds := []) 8 (aggI8 wr) (sizeI8 wr) (by simpa using HP.out) rfl (plV_len _ _))
      obtain ⟨w9, hst, hh9, hk9⟩ := run_store_all (P := Try.prog) (T := 34) (plV (nAt l) 8) HR.out (by rw [infoI8s, plV_len]) (by rw [plV_len]; rfl) (plV_one _ _)
      have HST := Lib.hid hst
      have HH9 := Lib.hid hh9
      have HB9 := Lib.hid (HB.out.trans (hk9.toBelow w.heap.size HB.out.size (by simp)))
      have hld9 := (run_load_all (P := Try.prog) (T := 34) (i0 := 0) (bs := []) (ds := []) 8 (aggI8 w9) (sizeI8 w9) (by simpa using hh9) rfl (plV_len _ _))
      clear hst hh9 hk9
      go_wp2_with (first
        | (refine wpList_load_run rfl (.tmp 3) 34 rfl _ _ rfl hld.out ?_)
        | (refine wpList_store_run rfl (.tmp 2) (.tmp 24) 34 rfl _ _ rfl rfl _ HST.out ?_))
      have e0 := HH9.out.cell 0
      have e1 := HH9.out.cell 1
      have e2 := HH9.out.cell 2
      have e3 := HH9.out.cell 3
      have e4 := HH9.out.cell 4
      have e5 := HH9.out.cell 5
      have e6 := HH9.out.cell 6
      have e7 := HH9.out.cell 7
      simp [plV, List.range_succ] at e0 e1 e2 e3 e4 e5 e6 e7
      exact bodyPost_ret (v := .agg (plV (nAt l) 8).toArray) (by simp [results, Try.results15, go_sem, plV, List.range_succ, e0, e1, e2, e3, e4, e5, e6, e7]) rfl ⟨rfl, HB9.out⟩
/-- Whether calls are few: some answer. -/
def SomeB (w : World) (e : Ending) (w' : World) : Prop := ∃ b : Bool, e = .returned (.bool b) ∧ Below w.heap.size w w'
theorem index_in (a : Nat → Option Addr) (z : Nat → List Int) (q : Nat → Nat) (k : Nat) (hk : k < 8) (W : World) : Sem.run Try.prog (Instr.index 27 (.agg (inV a z q).toArray) (.int .i64 (k : Int))) W = .ok (.slice (a k) (z k).length (q k)) W := by
  rcases lt8 hk with rfl | rfl | rfl | rfl | rfl | rfl | rfl | rfl <;> kernel_rfl
set_option maxRecDepth 100000 in
set_option maxHeartbeats 4000000 in
theorem few_any (a : Nat → Option Addr) (z : Nat → List Int) (q : Nat → Nat) (la : List ActM) (v : Value) (w : World) (hv : ActsAt w v la) :
    Calls Try.prog 7 #[.agg (inV a z q).toArray, v] w (SomeB w) := by
  have hll := hv.len
  have HV := Lib.hid (fun (W : World) (hb : Below w.heap.size w W) => hv.below hb)
  obtain ⟨av, cw, rfl⟩ := hv.shape
  have hix := index_in a z q
  have hI := Has.new w 27 (inV a z q)
  have HB0 := Lib.hid ((Below.refl w.heap.size w).alloc (Nat.le_refl _) (.cells (inV a z q).toArray 27))
  have HLD : Hid ((Instr.loadAt 27 (.pointer (some ⟨w.heap.size, 0, none⟩))).run Try.prog (w.alloc (.cells (inV a z q).toArray 27)) = .ok (.agg (inV a z q).toArray) (w.alloc (.cells (inV a z q).toArray 27))) := Lib.hid (run_load_all (T := 27) (i0 := 0) (bs := []) (ds := []) 8 (by kernel_rfl) (by kernel_rfl) (by simpa using hI) rfl (by rfl))
  obtain ⟨ia, hia⟩ : ∃ x, inV a z q = x := ⟨_, rfl⟩
  rw [hia] at hix hI HB0 HLD ⊢
  clear hv hia hI
  go_enter Try.func7, Try.ntmps7
  go_wp2_with (refine wpList_load_run rfl (.tmp 2) 27 rfl _ _ rfl HLD.out ?_)
  clear HLD
  generalize World.alloc w _ = W1 at HB0 ⊢
  go_loop [5, 13] (fun nv i => ∃ (k : Nat) (m : Int), i = .int .i64 k ∧ nv = .int .i64 m ∧ k ≤ 8) (fun _ i => 8 - (intOf i).toNat)
  case atStart => exact ⟨0, _, rfl, rfl, by omega⟩
  case round =>
    obtain ⟨k, m, rfl, rfl, hk⟩ := hrel
    by_cases hk8 : k < 8
    · have hk8i : (k : Int) < 8 := by omega
      have hik := hix k hk8
      clear hix
      go_wp2
      go_round
      case rel => exact ⟨k + 1, _, by go_num, rfl, by omega⟩
      case measure => simp [intOf]; omega
    · obtain rfl : k = 8 := by omega
      have hlt2 : ¬ ((8 : Nat) : Int) < 8 := by omega
      clear hix
      go_wp2
      go_loopw [5, 23] (fun nv i wr => ∃ (k : Nat) (m : Int), i = .int .i64 k ∧ nv = .int .i64 m ∧ k ≤ la.length ∧ Hid (Below w.heap.size w wr)) (fun _ i _ => la.length - (intOf i).toNat)
      case atStart => exact ⟨0, _, rfl, rfl, by omega, HB0⟩
      case round =>
        obtain ⟨k, m, rfl, rfl, hk, HB⟩ := hrel
        by_cases hlt : k < la.length
        · obtain ⟨b, o, rfl, hbl, c0, c1, c2, c3, c4, c5, c6⟩ := (HV.out _ HB.out).at k hlt
          obtain ⟨⟨x0, x1, x2, x3, x4, x5, x6⟩, hx⟩ : ∃ x, la[k] = x := ⟨_, rfl⟩
          rw [hx] at c0 c1 c2 c3 c4 c5 c6
          simp only at c0 c1 c2 c3 c4 c5 c6
          clear hx
          have hi1 : (k : Int) < (la.length : Int) := by omega
          go_wp2
          have HB2 := Lib.hid (HB.out.alloc HB.out.size (.cells #[.int .i64 x0, .int .u64 (x1 : Int), .int .i64 x2, .int .i64 x3, .int .i64 x4, .string x5, .int .u64 (x6 : Int)] 41))
          go_roundw
          case rel => exact ⟨k + 1, _, by go_num, rfl, by omega, HB2⟩
          case measure => simp [intOf]; omega
        · obtain rfl : k = la.length := by omega
          have hlt2 : ¬ (la.length : Int) < (la.length : Int) := by omega
          go_wp2
          go_ret
          exact ⟨_, rfl, HB.out⟩
end WorldD
end Go.Proofs.Yteohgacblilfmaa
