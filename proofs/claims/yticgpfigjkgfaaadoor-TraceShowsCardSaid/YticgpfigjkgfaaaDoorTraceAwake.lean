/- The example; whether events are few; whether they are alike. -/
import Derived.Test.YticgpfigjkgfaaaDoorTraceRef
import Derived.Test.YticgpfigjkgfaaaDoorTraceShow
namespace Go.Proofs.YticgpfigjkgfaaaDoor
open Go.RowKit ObjM
namespace TraceD
open LabelM LabelD NumD

/-- Whether events are few. -/
def fewFrom (n : Nat) : List Ev → Bool
  | [] => true
  | e :: r => if 5000 < n + (5 + e.s.size) then false else fewFrom (n + (5 + e.s.size)) r
theorem fewFrom_len : ∀ (l : List Ev) (n : Nat), n ≤ 5000 → fewFrom n l = true → n + 5 * l.length ≤ 5000
  | [], n, hn, _ => by simpa using hn
  | e :: r, n, hn, h => by
    unfold fewFrom at h
    split at h
    · cases h
    · rename_i h5
      have := fewFrom_len r _ (by omega) h
      simp
      omega
set_option maxRecDepth 100000 in
set_option maxHeartbeats 2000000 in
theorem few_any (l : List Ev) (v : Value) (hs : ∀ e ∈ l, e.s.size ≤ 140737488355328) (w : World) (hv : EvsAt w v l) :
    Calls Tryd.prog 9 #[v] w fun e w' => e = .returned (.bool (fewFrom 0 l)) ∧ Below w.heap.size w w' := by
  have hl := hv.len
  obtain ⟨av, cv, rfl⟩ := hv.shape
  have HV := Lib.hid hv
  clear hv
  have HS := Lib.hid hs
  clear hs
  obtain ⟨R, hR⟩ : ∃ R, fewFrom 0 l = R := ⟨_, rfl⟩
  rw [hR]
  have H0 : Hid (fewFrom 0 (l.drop 0) = R) := Lib.hid (by simpa using hR)
  clear hR
  go_enter Tryd.func9, Tryd.ntmps9
  go_wp2
  go_loopw [3, 8] (fun nv i wr => ∃ (k n : Nat), i = .int .i64 k ∧ nv = .int .i64 n ∧ k ≤ l.length ∧ n ≤ 5000 ∧ Below w.heap.size w wr ∧ Hid (fewFrom n (l.drop k) = R)) (fun _ i _ => l.length - (intOf i).toNat)
  case atStart => exact ⟨0, 0, rfl, rfl, by omega, by omega, Below.refl _ _, H0⟩
  case round =>
    obtain ⟨k, n, rfl, rfl, hk, hn, hB, HD⟩ := hrel
    have HB := Lib.hid hB
    have hsz := hB.size
    by_cases hlt : k < l.length
    · obtain ⟨b, o, rfl, hbl, c0, c1, c2, c3⟩ := (HV.out.below hB).at k hlt
      have hsx := HS.out l[k] (List.getElem_mem hlt)
      have HD2 : Hid (fewFrom n (l.drop k) = if 5000 < n + (5 + l[k].s.size) then false else fewFrom (n + (5 + l[k].s.size)) (l.drop (k + 1))) := Lib.hid (by rw [List.drop_eq_getElem_cons hlt]; rfl)
      obtain ⟨⟨x0, x1, x2, x3⟩, hx⟩ : ∃ x, l[k] = x := ⟨_, rfl⟩
      rw [hx] at c0 c1 c2 c3 HD2 hsx
      simp only at c0 c1 c2 c3 HD2 hsx
      clear hx hB
      have hi1 : (k : Int) < (l.length : Int) := by omega
      by_cases h5 : 5000 < n + (5 + x3.size)
      · have hR : R = false := by rw [← HD.out, HD2.out, if_pos h5]
        subst hR
        have h5i : (5000 : Int) < (n : Int) + (5 + (x3.size : Int)) := by omega
        clear HD2
        go_wp2
        go_ret
        exact ⟨rfl, HB.out.alloc hsz _⟩
      · have h5i : ¬ (5000 : Int) < (n : Int) + (5 + (x3.size : Int)) := by omega
        have HD3 : Hid (fewFrom (n + (5 + x3.size)) (l.drop (k + 1)) = R) := Lib.hid (by rw [← HD.out, HD2.out, if_neg h5])
        clear HD2
        go_wp2
        go_roundw
        case rel => exact ⟨k + 1, n + (5 + x3.size), by go_num, by go_num, by omega, by omega, HB.out.alloc hsz _, HD3⟩
        case measure => simp [intOf]; omega
    · obtain rfl : k = l.length := by omega
      have hR : R = true := by
        rw [← HD.out, List.drop_length]
        rfl
      subst hR
      have hlt2 : ¬ (l.length : Int) < (l.length : Int) := by omega
      clear hB
      go_wp2
      go_ret
      exact ⟨rfl, HB.out⟩

set_option maxRecDepth 100000 in
set_option maxHeartbeats 1000000 in
theorem same_self (l : List Ev) (v u : Value) (w : World) (hv : EvsAt w v l) (hu : EvsAt w u l) (hb : beginsB l l = true) :
    Calls Tryd.prog 10 #[v, u] w fun e w' => e = .returned (.bool true) ∧ Below w.heap.size w w' := by
  have HR := Lib.hid (refBegins_any l l v u w hv hu)
  rw [hb] at HR
  obtain ⟨av, cv, rfl⟩ := hv.shape
  obtain ⟨au, cu, rfl⟩ := hu.shape
  clear hv hu
  go_enter Tryd.func10, Tryd.ntmps10
  go_wp2_with fail
  refine (HR.out).mono ?_
  rintro e w1 ⟨rfl, hb1⟩
  go_wp2
  go_ret
  exact ⟨rfl, hb1⟩

theorem flows10 : flowsB 1 0 = false := by decide
theorem flows00 : flowsB 0 0 = true := by decide
theorem vis_ex0 : visL [0, 0, 1, 0, 0, 0, 0, 0] 0 [⟨2, 2, 5, ⟨#[]⟩⟩] = [] := by decide
theorem vis_ex1 : visL [0, 0, 0, 0, 0, 0, 0, 0] 0 [⟨2, 2, 5, ⟨#[]⟩⟩] = [⟨2, 2, 5, ⟨#[]⟩⟩] := by
  unfold visL
  rw [List.filter_cons_of_pos (by decide)]
  rfl

set_option maxRecDepth 100000 in
set_option maxHeartbeats 2000000 in
theorem awake_any (w : World) (hT : Tab w) : Calls Tryd.prog 8 #[] w fun e w' => e = .returned (.bool true) ∧ Below w.heap.size w w' := by
  have hH := Has.new w 38 [.int .i64 2, .int .i64 2, .int .i64 5, .string ⟨#[]⟩]
  have hA1 : Below w.heap.size w (w.alloc (.cells #[.int .i64 2, .int .i64 2, .int .i64 5, .string ⟨#[]⟩] 38)) := (Below.refl _ w).alloc (Nat.le_refl _) _
  have HS := Lib.hid (show_one w.heap.size _ hH (hT.below hA1))
  have HE : Hid (∀ W, Below (w.heap.size + 1) (w.alloc (.cells #[.int .i64 2, .int .i64 2, .int .i64 5, .string ⟨#[]⟩] 38)) W → EvsAt W (.slice (some ⟨w.heap.size, 0, none⟩) 1 1) [⟨2, 2, 5, ⟨#[]⟩⟩]) := Lib.hid (fun W hb => by
    have h := hH.below hb (by omega)
    refine .inr ⟨w.heap.size, 0, 1, rfl, by simp, by omega, h.lt, fun i e hi => ?_⟩
    match i, hi with
    | 0, hi =>
      simp at hi
      subst hi
      exact ⟨h.cell 0, h.cell 1, h.cell 2, h.cell 3⟩
    | i + 1, hi => simp at hi)
  have HL0 := fun (W : World) hb => Lib.hid (low_any [⟨2, 2, 5, ⟨#[]⟩⟩] _ 0 0 1 0 0 0 0 0 0 (by intro j; match j with | 0 => decide | 1 => decide | 2 => decide | 3 => decide | 4 => decide | 5 => decide | 6 => decide | 7 => decide | j + 8 => exact (by decide : (0 : Nat) < M64)) (by decide) (by simp) W (HE.out W hb))
  have HL1 := fun (W : World) hb => Lib.hid (low_any [⟨2, 2, 5, ⟨#[]⟩⟩] _ 0 0 0 0 0 0 0 0 0 (by intro j; match j with | 0 => decide | 1 => decide | 2 => decide | 3 => decide | 4 => decide | 5 => decide | 6 => decide | 7 => decide | j + 8 => exact (by decide : (0 : Nat) < M64)) (by decide) (by simp) W (HE.out W hb))
  have HB := fun (W : World) hb => Lib.hid (begins_any [] [⟨2, 2, 5, ⟨#[]⟩⟩] (.slice none 0 0) _ W (.inl ⟨rfl, rfl⟩) (HE.out W hb))
  rw [vis_ex0] at HL0
  rw [vis_ex1] at HL1
  have HA1 := Lib.hid hA1
  clear hT hH hA1 HE
  go_enter Tryd.func8, Tryd.ntmps8
  go_wp2_with fail
  refine (HS.out).mono ?_
  rintro e w1 ⟨rfl, hb1⟩
  simp only [World.size_alloc] at hb1
  have q1 := Lib.hid hb1
  clear hb1
  go_wp2_with fail
  refine ((HL0 _ q1.out).out).mono ?_
  rintro e w2 ⟨u, rfl, hu, hb2⟩
  have q2 := Lib.hid (q1.out.trans (hb2.mono (by have := q1.out.size; simpa using this)))
  obtain ⟨au, cu, rfl⟩ := (evs_of_own hu).shape
  clear hu hb2
  go_wp2_with fail
  refine ((HL1 _ q2.out).out).mono ?_
  rintro e w3 ⟨u, rfl, hu, hb3⟩
  have q3 := Lib.hid (q2.out.trans (hb3.mono (by have := q2.out.size; simpa using this)))
  obtain ⟨au, cu, rfl⟩ := (evs_of_own hu).shape
  clear hu hb3
  go_wp2_with fail
  refine ((HB _ q3.out).out).mono ?_
  rintro e w4 ⟨rfl, hb4⟩
  have q4 := Lib.hid (q3.out.trans (hb4.mono (by have := q3.out.size; simpa using this)))
  go_wp2
  go_ret
  exact ⟨rfl, HA1.out.trans (q4.out.mono (by omega))⟩
end TraceD
end Go.Proofs.YticgpfigjkgfaaaDoor
