/- The walk of LabelLists. -/
import Derived.Test.YtlmckgghickahaaDoorLabelLaws4
import Derived.Test.YtlmckgghickahaaDoorLabelRef
import Derived.Deep.QuietTactic
import Derived.BigQuiet
namespace Go.Proofs.YtlmckgghickahaaDoor
open Go.RowKit Shell
namespace LabelD
open LabelM

theorem row_shape {w : World} {base : Nat} {e : TypeId} {v : Value} {n : Nat} {xs : List Value} (h : w.ownsRow base e 1 v n xs) :
    (v = .slice none 0 0 ∧ n = 0) ∨ ∃ g cap, v = .slice (some ⟨g, 0, none⟩) n cap ∧ ∀ (j : Nat) (hj : j < xs.length), w.cell? ⟨g, j, none⟩ = some xs[j] := by
  obtain ⟨h1, h2⟩ := h
  rcases h2 with ⟨rfl, he⟩ | ⟨g, cap, cur, rfl, hb, hgb, hr1, hr2, hr3, hr4⟩
  · subst he
    simp at h1
    exact .inl ⟨rfl, rfl⟩
  · refine .inr ⟨g, cap, rfl, fun j hj => ?_⟩
    have h9 : xs[j]? = some xs[j] := List.getElem?_eq_getElem hj
    obtain ⟨x, hx⟩ : ∃ x, xs[j] = x := ⟨_, rfl⟩
    rw [hx] at h9 ⊢
    rw [← hr4, List.getElem?_take_of_lt (by omega)] at h9
    have h10 : cur[j]? = some x := by simpa using h9
    simp [World.cell?, hgb, h10]
theorem listV_nats (L : Nat) : listV (finsL L) = intsV (natsK L 64) ∧ (finsL L).length = (natsK L 64).length := by
  rw [natsK_64]
  refine ⟨?_, by simp⟩
  unfold listV intsV
  rw [List.map_map]
  rfl
set_option maxHeartbeats 1000000 in
theorem of_none (w : World) : Calls Tryd.prog 21 #[.slice none 0 0] w fun e w' => e = .returned (ofV .i64 []) ∧ w = w' := by
  have HZ : Hid (ofL [] = some 0) := Lib.hid rfl
  go_enter Tryd.func21, Tryd.ntmps21
  go_wp2
  go_loop [4, 9] (fun av i => i = .int .i64 0 ∧ av = .int .u64 0) (fun _ _ => 0)
  case atStart => exact ⟨rfl, rfl⟩
  case round =>
    obtain ⟨rfl, rfl⟩ := hrel
    go_wp2
    go_ret2
    exact ⟨ofV_some HZ.out, rfl⟩
set_option maxHeartbeats 1000000 in
theorem refOf_none (w : World) : Calls Tryd.prog 22 #[.slice none 0 0] w fun e w' => e = .returned (ofV .i64 []) ∧ w = w' := by
  have HZ : Hid (ofL [] = some 0) := Lib.hid rfl
  go_enter Tryd.func22, Tryd.ntmps22
  go_wp2
  go_loop [4, 9] (fun av i => i = .int .i64 0 ∧ av = .int .u64 0) (fun _ _ => 0)
  case atStart => exact ⟨rfl, rfl⟩
  case round =>
    obtain ⟨rfl, rfl⟩ := hrel
    go_wp2
    go_ret2
    exact ⟨ofV_some HZ.out, rfl⟩
theorem of_at {zs : List Int} {v : Value} (W : World) (h : IntsAt W .i64 v zs) :
    (Calls Tryd.prog 21 #[v] W fun e w' => e = .returned (ofV .i64 zs) ∧ W = w') ∧ (Calls Tryd.prog 22 #[v] W fun e w' => e = .returned (ofV .i64 zs) ∧ W = w') := by
  have hl := h.len
  rcases h with ⟨rfl, rfl⟩ | ⟨b, o, cap, rfl, _, _, _, hc⟩
  · exact ⟨of_none W, refOf_none W⟩
  · exact ⟨of_any b o cap zs hl W hc, refOf_any b o cap zs hl W hc⟩
theorem ofV_tuple (zs : List Int) : ∃ (l : Nat) (n : Int), ofV .i64 zs = .tuple #[.int .u64 (l : Int), .int .i64 n] := by
  unfold ofV
  split
  · exact ⟨_, _, rfl⟩
  · exact ⟨0, 1, rfl⟩

set_option maxRecDepth 100000 in
set_option maxHeartbeats 4000000 in
theorem labelLists_any (L : Nat) (hL : L < M64) (q : Int) (zs : List Int) (v : Value) (w : World) (hv : IntsAt w .i64 v zs) (hT : Tabs w) :
    Calls Tryd.prog 5 #[.int .u64 L, .int .i64 q, v] w fun e w' => e = .returned (.bool true) ∧ Below w.heap.size w w' := by
  have HA := Lib.hid (awake_any w hT)
  have HT := Lib.hid hT
  have hl := hv.len
  have HOf := Lib.hid (fun (W : World) (hb : Below w.heap.size w W) => of_at W (hv.below hb (Nat.le_refl _)))
  obtain ⟨x, y, hxy⟩ := ofV_tuple zs
  simp only [hxy] at HOf
  clear hxy hT
  have HH1 := fun W => Lib.hid (has_any L hL q W)
  have HH2 := fun W => Lib.hid (refHas_any L hL q W)
  obtain ⟨hb, hhb⟩ : ∃ b, hasB L q = b := ⟨_, rfl⟩
  simp only [hhb] at HH1 HH2
  clear hhb
  have HL1 := Lib.hid (fun (W : World) (h : Tabs W) => callsIn_wide.1 (list_in L hL W h.bru (Nat.lt_of_lt_of_le (by decide) h.lo)))
  have HL2 := fun W => Lib.hid (refList_any L hL W)
  obtain ⟨e1, e2⟩ := listV_nats L
  have hnk := natsK_len L 64
  simp only [e1, e2] at HL1
  obtain ⟨ns, hns⟩ : ∃ ns, natsK L 64 = ns := ⟨_, rfl⟩
  simp only [hns] at HL1 HL2 hnk
  clear hns e1 e2
  by_cases hlen : 200 < zs.length
  · rcases hv with ⟨rfl, rfl⟩ | ⟨bk, o, cap, rfl, -⟩
    · simp at hlen
    · go_enter Tryd.func5, Tryd.ntmps5
      go_wp2_with fail
      refine (HA.out).mono ?_
      rintro e w1 ⟨rfl, hb1⟩
      go_wp2
      go_ret
      exact ⟨rfl, hb1⟩
  · have hlen' : zs.length ≤ 200 := by omega
    clear hlen
    rcases hv with ⟨rfl, hz0⟩ | ⟨bk, o, cap, rfl, -⟩
    all_goals
      try (subst hz0)
      go_enter Tryd.func5, Tryd.ntmps5
      go_wp2_with fail
      refine (HA.out).mono ?_
      rintro e w1 ⟨rfl, hb1⟩
      have HT1 : Hid (Tabs w1) := Lib.hid (HT.out.below hb1 HT.out.lo)
      have HLa := Lib.hid (HL1.out w1 HT1.out)
      go_wp2_with fail
      refine ((HH1 _).out).mono ?_
      rintro e w2 ⟨rfl, hw⟩
      subst hw
      go_wp2_with fail
      refine ((HH2 _).out).mono ?_
      rintro e w2 ⟨rfl, hw⟩
      subst hw
      go_wp2_with fail
      refine (HLa.out).mono ?_
      rintro e w2 ⟨g1, rfl, hown1, hb2⟩
      go_wp2_with fail
      refine ((HL2 _).out).mono ?_
      rintro e w3 ⟨g2, rfl, hown2, hb3⟩
      have hown1' := own_below hown1 hb3
      have hB : Below w.heap.size w w3 := (hb1.trans (hb2.mono hb1.size)).trans (hb3.mono (Nat.le_trans hb1.size hb2.size))
      have HO := Lib.hid (HOf.out w3 hB)
      have R1 := row_shape hown1'
      have R2 := row_shape hown2
      clear hown1 hown1' hown2
      by_cases h0 : ns.length = 0
      · rw [h0] at R1 R2
        clear h0
        rcases R1 with ⟨rfl, -⟩ | ⟨a1, c1, rfl, -⟩
        all_goals
          rcases R2 with ⟨rfl, -⟩ | ⟨a2, c2, rfl, -⟩
          all_goals
            go_wp2
            go_loop [37] (fun i => i = .int .i64 0) (fun _ => 0)
            case atStart => rfl
            case round =>
              obtain rfl := hrel
              go_wp2_with fail
              refine (HO.out.1).mono ?_
              rintro e w4 ⟨rfl, hw⟩
              subst hw
              go_wp2_with fail
              refine (HO.out.2).mono ?_
              rintro e w4 ⟨rfl, hw⟩
              subst hw
              go_wp2
              go_ret
              exact ⟨by simp, hB⟩
      · rcases R1 with ⟨-, h⟩ | ⟨a1, c1, rfl, C1⟩
        · exact absurd h h0
        rcases R2 with ⟨-, h⟩ | ⟨a2, c2, rfl, C2⟩
        · exact absurd h h0
        have hiv : ∀ (j : Nat) (h : j < ns.length), (intsV ns)[j]'(by simpa [intsV] using h) = .int .i64 (ns[j] : Int) := by intro j h; simp [intsV]
        have D1 : Hid (∀ (j : Nat) (h : j < ns.length), w3.cell? ⟨a1, j, none⟩ = some (.int .i64 (ns[j] : Int))) := Lib.hid fun j h => by rw [C1 j (by simpa [intsV] using h), hiv]
        have D2 : Hid (∀ (j : Nat) (h : j < ns.length), w3.cell? ⟨a2, j, none⟩ = some (.int .i64 (ns[j] : Int))) := Lib.hid fun j h => by rw [C2 j (by simpa [intsV] using h), hiv]
        clear C1 C2 hiv h0
        go_wp2
        go_loopw [37] (fun i wr => ∃ (k n : Nat), i = .int .i64 k ∧ k ≤ ns.length ∧ wr = w3.drewN n) (fun i _ => ns.length - (intOf i).toNat)
        case atStart => exact ⟨0, 0, rfl, by omega, rfl⟩
        case round =>
          obtain ⟨k, n, rfl, hk, rfl⟩ := hrel
          by_cases hlt : k < ns.length
          · have d1 := D1.out k hlt
            have d2 := D2.out k hlt
            obtain ⟨z, hz⟩ : ∃ z, ns[k] = z := ⟨_, rfl⟩
            rw [hz] at d1 d2
            clear hz
            go_wp2
            go_quiet (fail)
            go_wp2
            go_roundw
            case rel => exact ⟨k + 1, _, by go_num, by omega, rfl⟩
            case measure => simp [intOf]; omega
          · obtain rfl : k = ns.length := by omega
            have HO2 := Lib.hid (HOf.out (w3.drewN n) (below_drewN hB _))
            go_wp2_with fail
            refine (HO2.out.1).mono ?_
            rintro e w4 ⟨rfl, hw⟩
            subst hw
            go_wp2_with fail
            refine (HO2.out.2).mono ?_
            rintro e w4 ⟨rfl, hw⟩
            subst hw
            go_wp2
            go_ret
            exact ⟨by simp, below_drewN hB _⟩
theorem labelLists_u (a q : Int) (v : Value) (zs : List Int) (w : World) (ha : 0 ≤ a ∧ a ≤ 18446744073709551615) (hv : IntsAt w .i64 v zs) (hT : Tabs w) :
    Calls Tryd.prog 5 #[.int .u64 a, .int .i64 q, v] w fun e w' => e = .returned (.bool true) ∧ Below w.heap.size w w' := by
  obtain ⟨n, rfl⟩ : ∃ n : Nat, a = n := ⟨a.toNat, by omega⟩
  exact labelLists_any n (by unfold M64; omega) q zs v w hv hT
end LabelD
end Go.Proofs.YtlmckgghickahaaDoor
