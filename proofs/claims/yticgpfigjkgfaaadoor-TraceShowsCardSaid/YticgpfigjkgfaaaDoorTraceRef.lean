/- What one sees of events, by definition; the law's own tests. -/
import Derived.Test.YticgpfigjkgfaaaDoorTraceLow2
namespace Go.Proofs.YticgpfigjkgfaaaDoor
open Go.RowKit ObjM
namespace TraceD
open LabelM LabelD

theorem low_any (l : List Ev) (v : Value) (m0 m1 m2 m3 m4 m5 m6 m7 see : Nat) (hms : ∀ j, [m0, m1, m2, m3, m4, m5, m6, m7].getD j 0 < M64) (hse : see < M64) (hlb : l.length * 40 ≤ 140737488355328) (w : World) (hv : EvsAt w v l) :
    Calls Tryd.prog 11 #[v, .agg #[.int .u64 (m0 : Int), .int .u64 (m1 : Int), .int .u64 (m2 : Int), .int .u64 (m3 : Int), .int .u64 (m4 : Int), .int .u64 (m5 : Int), .int .u64 (m6 : Int), .int .u64 (m7 : Int)], .int .u64 (see : Int)] w
      fun e W' => ∃ u, e = .returned u ∧ W'.ownsRow w.heap.size 38 4 u (visL [m0, m1, m2, m3, m4, m5, m6, m7] see l).length (rowV (visL [m0, m1, m2, m3, m4, m5, m6, m7] see l)) ∧ Below w.heap.size w W' :=
  callsIn_wide.1 (low_in l v m0 m1 m2 m3 m4 m5 m6 m7 see hms hse hlb w hv)

theorem rowV_len (l : List Ev) : (rowV l).length = l.length * 4 := by
  induction l with
  | nil => rfl
  | cons a r ih => simp [rowV, Ev.cells] at ih ⊢; omega
theorem rowV_at : ∀ (l : List Ev) (i : Nat) (e : Ev), l[i]? = some e → ∀ j, j < 4 → (rowV l)[i * 4 + j]? = e.cells[j]?
  | [], i, e, h, j, hj => by simp at h
  | a :: r, 0, e, h, j, hj => by
    simp at h
    subst h
    show (a.cells ++ rowV r)[0 * 4 + j]? = _
    rw [List.getElem?_append_left (by simp [Ev.cells]; omega), Nat.zero_mul, Nat.zero_add]
  | a :: r, i + 1, e, h, j, hj => by
    show (a.cells ++ rowV r)[(i + 1) * 4 + j]? = _
    rw [List.getElem?_append_right (by simp [Ev.cells]; omega)]
    have e1 : (i + 1) * 4 + j - a.cells.length = i * 4 + j := by simp [Ev.cells]; omega
    rw [e1]
    exact rowV_at r i e (by simpa using h) j hj
/-- A row of the call's own is a slice of events. -/
theorem evs_of_own {w : World} {base : Nat} {v : Value} {l : List Ev} (h : w.ownsRow base 38 4 v l.length (rowV l)) : EvsAt w v l := by
  rcases own_shape h with ⟨rfl, hn, -⟩ | ⟨g, cap, cs, rfl, -, hg, hc, hm, -, -⟩
  · exact .inl ⟨rfl, List.eq_nil_of_length_eq_zero hn⟩
  · refine .inr ⟨g, 0, cap, rfl, hc, by unfold maxLen at hm; omega, ?_, ?_⟩
    · exact hg.lt
    · intro i e hi
      have hcl : ∀ j, j < 4 → w.cell? ⟨g, i * 4 + j, none⟩ = e.cells[j]? := by
        intro j hj
        have hlt : i < l.length := (List.getElem?_eq_some_iff.1 hi).1
        have hr := rowV_at l i e hi j hj
        have hlt2 : i * 4 + j < (rowV l).length := by rw [rowV_len]; omega
        rw [own_cell h _ hlt2, ← hr, List.getElem?_eq_getElem hlt2]
      refine ⟨?_, ?_, ?_, ?_⟩
      · simpa [Ev.cells] using hcl 0 (by omega)
      · simpa [Ev.cells] using hcl 1 (by omega)
      · simpa [Ev.cells] using hcl 2 (by omega)
      · simpa [Ev.cells] using hcl 3 (by omega)
set_option maxRecDepth 100000 in
set_option maxHeartbeats 4000000 in
theorem refLow_any (l : List Ev) (v : Value) (m0 m1 m2 m3 m4 m5 m6 m7 see : Nat) (hms : ∀ j, [m0, m1, m2, m3, m4, m5, m6, m7].getD j 0 < M64) (hse : see < M64) (hlb : l.length * 40 ≤ 140737488355328) (w : World) (hv : EvsAt w v l) :
    Calls Tryd.prog 12 #[v, .agg #[.int .u64 (m0 : Int), .int .u64 (m1 : Int), .int .u64 (m2 : Int), .int .u64 (m3 : Int), .int .u64 (m4 : Int), .int .u64 (m5 : Int), .int .u64 (m6 : Int), .int .u64 (m7 : Int)], .int .u64 (see : Int)] w
      fun e W' => ∃ u, e = .returned u ∧ W'.ownsRow w.heap.size 38 4 u (visL [m0, m1, m2, m3, m4, m5, m6, m7] see l).length (rowV (visL [m0, m1, m2, m3, m4, m5, m6, m7] see l)) ∧ Below w.heap.size w W' := by
  obtain ⟨i0, hi, hz0, hz1, hz2⟩ := info_parts infoEv
  obtain ⟨av, cw, rfl⟩ := hv.shape
  have hll := hv.len
  have HV := Lib.hid (fun (W : World) (hb : Below w.heap.size w W) => hv.below hb)
  clear hv
  have hbx := Has.new w 25 (masksV [m0, m1, m2, m3, m4, m5, m6, m7])
  have HM : Hid (∀ W', Below (w.heap.size + 1) (w.alloc (.cells (masksV [m0, m1, m2, m3, m4, m5, m6, m7]).toArray 25)) W' → ∀ j, j < 8 → W'.cell? ⟨w.heap.size, j, none⟩ = some (.int .u64 ([m0, m1, m2, m3, m4, m5, m6, m7].getD j 0 : Nat))) := Lib.hid (fun W' hb j hj => by
    rw [(hbx.below hb (by omega)).cell j]
    unfold masksV
    rw [List.getElem?_map, List.getElem?_eq_getElem (by simpa using hj), List.getD_eq_getElem?_getD, List.getElem?_eq_getElem (by simpa using hj)]
    rfl)
  clear hbx
  simp only [masksV, List.map_cons, List.map_nil] at HM
  obtain ⟨ms, hmsE⟩ : ∃ ms, [m0, m1, m2, m3, m4, m5, m6, m7] = ms := ⟨_, rfl⟩
  simp only [hmsE] at HM hms ⊢
  clear hmsE
  go_enter Tryd.func12, Tryd.ntmps12
  go_wp2
  have hB1 : Below (w.heap.size + 1) (w.alloc (.cells #[.int .u64 (m0 : Int), .int .u64 (m1 : Int), .int .u64 (m2 : Int), .int .u64 (m3 : Int), .int .u64 (m4 : Int), .int .u64 (m5 : Int), .int .u64 (m6 : Int), .int .u64 (m7 : Int)] 25)) (w.alloc (.cells #[.int .u64 (m0 : Int), .int .u64 (m1 : Int), .int .u64 (m2 : Int), .int .u64 (m3 : Int), .int .u64 (m4 : Int), .int .u64 (m5 : Int), .int .u64 (m6 : Int), .int .u64 (m7 : Int)] 25)) := Below.refl _ _
  have hB0 : Below w.heap.size w (w.alloc (.cells #[.int .u64 (m0 : Int), .int .u64 (m1 : Int), .int .u64 (m2 : Int), .int .u64 (m3 : Int), .int .u64 (m4 : Int), .int .u64 (m5 : Int), .int .u64 (m6 : Int), .int .u64 (m7 : Int)] 25)) := (Below.refl _ w).alloc (Nat.le_refl _) _
  have hsz1 : w.heap.size + 1 ≤ (w.alloc (.cells #[.int .u64 (m0 : Int), .int .u64 (m1 : Int), .int .u64 (m2 : Int), .int .u64 (m3 : Int), .int .u64 (m4 : Int), .int .u64 (m5 : Int), .int .u64 (m6 : Int), .int .u64 (m7 : Int)] 25)).heap.size := by simp
  change Code.wp _ _ _ _ (World.alloc w _)
  generalize World.alloc w _ = W1 at HM hB1 hB0 hsz1 ⊢
  have HB0 := Lib.hid hB0
  clear hB0
  go_loopw [7, 12] (fun ov i wr => ∃ k : Nat, i = .int .i64 k ∧ k ≤ l.length ∧ wr.ownsRow (w.heap.size + 1) 38 4 ov (visL ms see (l.take k)).length (rowV (visL ms see (l.take k))) ∧ Below (w.heap.size + 1) W1 wr) (fun _ i _ => l.length - (intOf i).toNat)
  case atStart => exact ⟨0, rfl, by omega, World.ownsRow_nil _ _ _ _, hB1⟩
  case round =>
    obtain ⟨k, rfl, hk, hO, hB⟩ := hrel
    have hszr : w.heap.size + 1 ≤ wr.heap.size := Nat.le_trans hsz1 hB.size
    have hbw : Below w.heap.size w wr := HB0.out.trans (hB.mono (by omega))
    by_cases hlt : k < l.length
    · obtain ⟨b, o, rfl, hbl, c0, c1, c2, c3⟩ := (HV.out wr hbw).at k hlt
      have hNx := Lib.hid (visL_next (ms := ms) (see := see) hlt)
      have hln := visL_len (ms := ms) (see := see) hlt
      have hm8 := HM.out wr hB
      obtain ⟨⟨x0, x1, x2, x3⟩, hx⟩ : ∃ x, l[k] = x := ⟨_, rfl⟩
      rw [hx] at c0 c1 c2 c3 hNx
      simp only at c0 c1 c2 c3
      have hi1 : (k : Int) < (l.length : Int) := by omega
      have hwlt : w.heap.size < wr.heap.size := by omega
      have HO := Lib.hid hO
      have HB := Lib.hid hB
      clear hx hO hB hbw
      by_cases hr : 0 ≤ x0 ∧ x0 < 8
      · obtain ⟨j, rfl⟩ : ∃ j : Nat, x0 = j := ⟨x0.toNat, by omega⟩
        have hj8 : j < 8 := by omega
        have hj8i : (j : Int) < 8 := by omega
        have hj0i : (0 : Int) ≤ (j : Int) := by omega
        have m0' := hm8 j hj8
        have HFl := fun W => Lib.hid (refFlows_any (ms.getD j 0) see (hms j) hse W)
        have hvis : Hid (visB ms see ⟨(j : Int), x1, x2, x3⟩ = flowsB (ms.getD j 0) see) := Lib.hid (by simp [visB, hj8i])
        obtain ⟨mj, hmj⟩ : ∃ mj, ms.getD j 0 = mj := ⟨_, rfl⟩
        rw [hmj] at m0' HFl hvis
        clear hm8 hr
        cases hfl : flowsB mj see
        · rw [hfl] at HFl hvis
          go_wp2_with fail
          with_reducible refine ((HFl _).out).mono ?_
          rintro e w5 ⟨rfl, hw⟩
          subst hw
          go_wp2
          go_roundw
          case rel => exact ⟨k + 1, by go_num, by omega, by rw [hNx.out, if_neg (by rw [hvis.out]; simp)]; exact HO.out.alloc _, HB.out.alloc hszr _⟩
          case measure => simp [intOf]; omega
        · rw [hfl] at HFl hvis
          have hlen2 : (visL ms see (l.take (k + 1))).length = (visL ms see (l.take k)).length + 1 := by rw [hNx.out, if_pos hvis.out]; simp
          go_wp2_with fail
          with_reducible refine ((HFl _).out).mono ?_
          rintro e w5 ⟨rfl, hw⟩
          subst hw
          go_wp2_with (at_builtin; refine wpList_append_own _ rfl _ _ 22 rfl (w.heap.size + 1) 38 i0 (.agg #[.int .i64 0, .int .i64 0, .int .i64 0, .string ⟨#[]⟩]) 4 40 Tryd.underlying22 hi hz0 hz1 hz2 rfl (by decide) _ _ _ rfl ((HO.out.alloc _).alloc _) ⟨wr.heap.size + 1, 0, none⟩ 1 1 [.int .i64 (j : Int), .int .i64 x1, .int .i64 x2, .string x3] rfl rfl (fun jj u h => by have := new_cells (wr.alloc (.cells #[.int .i64 (j : Int), .int .i64 x1, .int .i64 x2, .string x3] 38)) 38 _ jj u h; simpa only [World.size_alloc] using this) (by simp [Value.oneCell']) (by unfold maxLen; omega) (by omega) (by simp; omega) ?_)
          intro v' w5 hown' hgrow _
          have hT6 := (HO.out.alloc (.cells #[.int .i64 (j : Int), .int .i64 x1, .int .i64 x2, .string x3] 38)).alloc (.cells #[.int .i64 (j : Int), .int .i64 x1, .int .i64 x2, .string x3] 38)
          have hB5 : Below (w.heap.size + 1) W1 w5 := ((HB.out.alloc hszr _).alloc (by simp; omega) _).grown hgrow (by simp; omega) (fun g hg => (own_lt hT6 g hg).1)
          have hO5 : w5.ownsRow (w.heap.size + 1) 38 4 v' (visL ms see (l.take (k + 1))).length (rowV (visL ms see (l.take (k + 1)))) := by
            rw [hlen2, hNx.out, if_pos hvis.out, rowV_snoc]
            exact hown'
          have HO5 := Lib.hid hO5
          have HB5 := Lib.hid hB5
          clear hO5 hB5 hT6 hown' hgrow
          go_wp2
          go_roundw
          case rel => exact ⟨k + 1, by go_num, by omega, HO5.out, HB5.out⟩
          case measure => simp [intOf]; omega
      · have hvis : Hid (visB ms see ⟨x0, x1, x2, x3⟩ = false) := Lib.hid (by
          unfold visB
          by_cases h0 : 0 ≤ x0
          · have h8 : ¬ x0 < 8 := fun h => hr ⟨h0, h⟩
            simp [h8]
          · simp [h0])
        rcases (show ¬ 0 ≤ x0 ∨ (0 ≤ x0 ∧ ¬ x0 < 8) by omega) with hlo | ⟨hlo, hhi⟩
        all_goals
          clear hr hm8
          go_wp2
          go_roundw
          case rel => exact ⟨k + 1, by go_num, by omega, by rw [hNx.out, if_neg (by rw [hvis.out]; simp)]; exact HO.out.alloc _, HB.out.alloc hszr _⟩
          case measure => simp [intOf]; omega
    · obtain rfl : k = l.length := by omega
      rw [List.take_length] at hO
      have hlt2 : ¬ (l.length : Int) < (l.length : Int) := by omega
      have HO := Lib.hid hO
      have HBw := Lib.hid hbw
      clear hO hB hbw
      go_wp2
      go_ret
      exact ⟨_, rfl, own_base HO.out (by omega), HBw.out⟩
end TraceD
end Go.Proofs.YticgpfigjkgfaaaDoor
