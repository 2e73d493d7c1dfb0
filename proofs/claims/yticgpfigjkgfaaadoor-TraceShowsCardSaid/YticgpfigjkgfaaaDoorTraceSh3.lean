/- Events as a text, by definition; the walk of TraceShows. -/
import Derived.Test.YticgpfigjkgfaaaDoorTraceSh2
namespace Go.Proofs.YticgpfigjkgfaaaDoor
open Go.RowKit Go.WideShapes Go.ChangeShapes ObjM
namespace TraceD
open LabelM LabelD NumD

set_option maxRecDepth 100000 in
set_option maxHeartbeats 4000000 in
theorem refShow_all (l : List Ev) (hok : ∀ e ∈ l, OkEv e) (hlen : l.length ≤ 1000) (v : Value) (w : World) (hv : EvsAt w v l) (hT : Tab w) :
    Calls Tryd.prog 16 #[v] w fun e w' => e = .returned (.string ⟨(showL l).toArray⟩) ∧ Below w.heap.size w w' := by
  obtain ⟨av, cv, rfl⟩ := hv.shape
  have HV := Lib.hid (fun (W : World) (hb : Below w.heap.size w W) => hv.below hb)
  have HT := Lib.hid (fun (W : World) (hb : Below w.heap.size w W) => hT.below hb)
  have HK := Lib.hid hok
  have HSL := Lib.hid (fun k => showL_len (l.take k) fun e he => hok e (List.mem_of_mem_take he))
  clear hv hT hok
  go_enter Tryd.func16, Tryd.ntmps16
  go_wp2
  go_loopw [3, 8] (fun o i wr => ∃ (k : Nat) (O : ByteArray), i = .int .i64 k ∧ o = .string O ∧ k ≤ l.length ∧ Below w.heap.size w wr ∧ Hid (O.data.toList = showL (l.take k))) (fun _ i _ => l.length - (intOf i).toNat)
  case atStart => exact ⟨0, ⟨#[]⟩, rfl, rfl, by omega, Below.refl _ _, Lib.hid rfl⟩
  case round =>
    obtain ⟨k, O, rfl, rfl, hk, hB, HO⟩ := hrel
    have HB := Lib.hid hB
    by_cases hlt : k < l.length
    · obtain ⟨b, o, rfl, hbl, c0, c1, c2, c3⟩ := (HV.out _ hB).at k hlt
      have hokk := HK.out l[k] (List.getElem_mem hlt)
      have HNx := Lib.hid (showL_next hlt)
      have hsl := HSL.out k
      have htl : (l.take k).length ≤ 1000 := by simp; omega
      have hOs : O.size ≤ 4000025000 := by
        have h := list_size O
        rw [HO.out] at h
        omega
      have hts := textS_size _ hokk
      have hit := Lib.itoa_length_le _ hokk.2.1.1 hokk.2.1.2
      have HTx := fun (W : World) (hb : Below w.heap.size w W) => Lib.hid (value_any l[k] hokk.1 hokk.2.2 W (HT.out W hb))
      have HIt := fun (W : World) (hb : Below w.heap.size w W) => Lib.hid (refShow_any l[k].ch hokk.2.1.1 hokk.2.1.2 W (HT.out W hb))
      obtain ⟨A, hA⟩ : ∃ x : ByteArray, (⟨(Lib.itoa l[k].ch).toArray⟩ : ByteArray) = x := ⟨_, rfl⟩
      obtain ⟨T, hTx⟩ : ∃ x : ByteArray, textS l[k] = x := ⟨_, rfl⟩
      have hLn : (A ++ ⟨#[32]⟩ ++ T ++ ⟨#[10]⟩).data.toList = lineB l[k] := by
        rw [app_list, app_list, app_list, ← hA, ← hTx]
        rfl
      have hAs : A.size ≤ 21 := by rw [← hA]; show (Lib.itoa l[k].ch).toArray.size ≤ _; simpa using hit
      rw [hTx] at hts HTx
      simp only [hA] at HIt
      obtain ⟨⟨x0, x1, x2, x3⟩, hx⟩ : ∃ x, l[k] = x := ⟨_, rfl⟩
      rw [hx] at c0 c1 c2 c3 HNx HTx HIt hLn
      simp only [Ev.agg] at c0 c1 c2 c3 HTx HIt
      clear hx hA hTx hokk hit hB
      have hi1 : (k : Int) < (l.length : Int) := by omega
      have hv0 := Has.new wr 38 [.int .i64 x0, .int .i64 x1, .int .i64 x2, .string x3]
      have HF : Hid (∀ W', Below (wr.alloc (.cells #[.int .i64 x0, .int .i64 x1, .int .i64 x2, .string x3] 38)).heap.size (wr.alloc (.cells #[.int .i64 x0, .int .i64 x1, .int .i64 x2, .string x3] 38)) W' → (W'.cell? ⟨wr.heap.size, 0, none⟩ = some (.int .i64 x0) ∧ W'.cell? ⟨wr.heap.size, 1, none⟩ = some (.int .i64 x1) ∧ W'.cell? ⟨wr.heap.size, 2, none⟩ = some (.int .i64 x2) ∧ W'.cell? ⟨wr.heap.size, 3, none⟩ = some (.string x3)) ∧ Below w.heap.size w W') := Lib.hid (fun W' hb => by
        have p := hv0.below hb hv0.lt
        have h2 : Below wr.heap.size wr W' := ((Below.refl _ wr).alloc (Nat.le_refl _) _).trans (hb.mono (by simp))
        exact ⟨⟨p.cell 0, p.cell 1, p.cell 2, p.cell 3⟩, HB.out.trans (h2.mono HB.out.size)⟩)
      have z1 : ¬ 9223372036854775807 < A.size + 1 := by omega
      have z2 : ¬ 9223372036854775807 < A.size + 1 + T.size := by omega
      have z3 : ¬ 9223372036854775807 < A.size + 1 + T.size + 1 := by omega
      have z4 : ¬ 9223372036854775807 < O.size + (A.size + 1 + T.size + 1) := by omega
      have HN : Hid ((O ++ (A ++ ⟨#[32]⟩ ++ T ++ ⟨#[10]⟩)).data.toList = showL (l.take (k + 1))) := Lib.hid (by rw [app_list, hLn, HO.out, HNx.out])
      clear hv0 hLn HK HSL hsl htl
      go_wp2
      change Code.wp _ _ _ _ (World.alloc wr _)
      generalize World.alloc wr _ = W1 at HF ⊢
      obtain ⟨⟨e0, e1, e2, e3⟩, -⟩ := HF.out W1 (Below.refl _ _)
      go_region_with
        (first
          | (go_at_call 25
             go_loud (
             with_reducible refine ((HIt _ (HF.out _ ((Below.refl _ _).drew)).2).out).mono ?_
             rintro e w2 ⟨rfl, hb2⟩
             have q2 : Below W1.heap.size W1 w2 := ((Below.refl _ _).drew).trans (hb2.mono (by simp))
             clear hb2
             obtain ⟨⟨a0, a1, a2, a3⟩, -⟩ := HF.out w2 q2))
          | (go_at_call 26
             go_loud (
             with_reducible refine ((HTx _ (HF.out _ q2).2).out).mono ?_
             rintro e w3 ⟨rfl, hb3⟩
             have q3 : Below W1.heap.size W1 w3 := q2.trans (hb3.mono q2.size)
             clear hb3)))
      all_goals
        have Q3 := Lib.hid (HF.out _ q3).2
        clear q2 q3
        go_wp2
        go_roundw
        case rel => exact ⟨k + 1, _, by go_num, rfl, by omega, Q3.out, HN⟩
        case measure => simp [intOf]; omega
    · obtain rfl : k = l.length := by omega
      have hlt2 : ¬ (l.length : Int) < (l.length : Int) := by omega
      rw [List.take_length] at HO
      have hOe : O = (⟨(showL l).toArray⟩ : ByteArray) := bytes_eq (by rw [HO.out])
      subst hOe
      clear hB HSL
      go_wp2
      go_ret
      exact ⟨rfl, HB.out⟩

theorem fewFrom_small : ∀ (l : List Ev) (n : Nat), fewFrom n l = true → ∀ e ∈ l, e.s.size ≤ 5000
  | [], _, _, _, h => by cases h
  | a :: r, n, h, e, he => by
    unfold fewFrom at h
    split at h
    · cases h
    · rename_i h5
      rcases List.mem_cons.1 he with rfl | he
      · omega
      · exact fewFrom_small r _ h e he

set_option maxRecDepth 100000 in
set_option maxHeartbeats 4000000 in
theorem traceShows_any (l : List Ev) (v : Value) (hs : ∀ e ∈ l, e.s.size ≤ 140737488355328 ∧ (-9223372036854775808 ≤ e.ch ∧ e.ch ≤ 9223372036854775807) ∧ (-9223372036854775808 ≤ e.n ∧ e.n ≤ 9223372036854775807)) (w : World) (hv : EvsAt w v l) (hT : Tab w) :
    Calls Tryd.prog 5 #[v] w fun e w' => e = .returned (.bool true) ∧ Below w.heap.size w w' := by
  have HA := Lib.hid (awake_any w hT)
  have HFw := fun (W : World) (hb : Below w.heap.size w W) => Lib.hid (few_any l v (fun e he => (hs e he).1) W (hv.below hb))
  have HL := fun (hok : ∀ e ∈ l, OkEv e) (hlen : l.length ≤ 1000) (W : World) (hb : Below w.heap.size w W) => Lib.hid (show_all l hok hlen v W (hv.below hb) (hT.below hb))
  have HR := fun (hok : ∀ e ∈ l, OkEv e) (hlen : l.length ≤ 1000) (W : World) (hb : Below w.heap.size w W) => Lib.hid (refShow_all l hok hlen v W (hv.below hb) (hT.below hb))
  have hok : fewFrom 0 l = true → ∀ e ∈ l, OkEv e := fun h e he => ⟨by have := fewFrom_small l 0 h e he; omega, (hs e he).2⟩
  have hlen : fewFrom 0 l = true → l.length ≤ 1000 := fun h => by have := fewFrom_len l 0 (by omega) h; omega
  obtain ⟨av, cv, rfl⟩ := hv.shape
  obtain ⟨x, hx⟩ : ∃ x : ByteArray, (⟨(showL l).toArray⟩ : ByteArray) = x := ⟨_, rfl⟩
  simp only [hx] at HL HR
  clear hs hT hv hx
  cases hf : fewFrom 0 l
  · rw [hf] at HFw
    clear hf hok hlen HL HR
    go_enter Tryd.func5, Tryd.ntmps5
    go_wp2_with fail
    with_reducible refine ((HA).out).mono ?_
    rintro e w1 ⟨rfl, hb1⟩
    have B1 := Lib.hid hb1
    clear hb1
    go_wp2_with fail
    with_reducible refine ((HFw _ B1.out).out).mono ?_
    rintro e w2 ⟨rfl, hb2⟩
    have B2 := Lib.hid (B1.out.trans (hb2.mono B1.out.size))
    clear hb2
    go_wp2
    go_ret
    exact ⟨rfl, B2.out⟩
  · rw [hf] at HFw
    replace HL := HL (hok hf) (hlen hf)
    replace HR := HR (hok hf) (hlen hf)
    clear hf hok hlen
    go_enter Tryd.func5, Tryd.ntmps5
    go_wp2_with fail
    with_reducible refine ((HA).out).mono ?_
    rintro e w1 ⟨rfl, hb1⟩
    have B1 := Lib.hid hb1
    clear hb1
    go_wp2_with fail
    with_reducible refine ((HFw _ B1.out).out).mono ?_
    rintro e w2 ⟨rfl, hb2⟩
    have B2 := Lib.hid (B1.out.trans (hb2.mono B1.out.size))
    clear hb2
    go_wp2_with fail
    with_reducible refine ((HL _ B2.out).out).mono ?_
    rintro e w3 ⟨rfl, hb3⟩
    have B3 := Lib.hid (B2.out.trans (hb3.mono B2.out.size))
    clear hb3
    go_wp2_with fail
    with_reducible refine ((HR _ B3.out).out).mono ?_
    rintro e w4 ⟨rfl, hb4⟩
    have B4 := Lib.hid (B3.out.trans (hb4.mono B3.out.size))
    clear hb4
    go_wp2
    go_ret
    exact ⟨by first | rfl | (simp; done), B4.out⟩

section
variable {H : Type} {enc : TypeId × Value → H}
theorem traceShows_u {r : Reach} {b0 : Nat} {d : DataW H} {ps : List MemPlace} {sp : Nat → Bool} (v : Value) (w : World) (g0 : Value.okWide Tryd.prog w r b0 22 v) (h0 : DataW.Trod enc Tryd.prog w 0 sp true 22 v d ps)
    (hw : ∀ n ∈ d.weights Tryd.prog 22, n ≤ reachBytes) (hT : Tab w) :
    Calls Tryd.prog 5 #[v] w fun e w' => e = .returned (.bool true) ∧ Below w.heap.size w w' := by
  obtain ⟨l, hv, -, hs⟩ := open_evs g0 h0 hw
  exact traceShows_any l v hs w hv hT
end
end TraceD
end Go.Proofs.YticgpfigjkgfaaaDoor
