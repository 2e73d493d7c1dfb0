/- The document's words, runs, blanks, signs. -/
import Derived.Test.YthlclmjcdpffbaaDoorLex13
namespace Go.Proofs.YthlclmjcdpffbaaDoor
open Go.RowKit ObjM Go.Maps
namespace LexD

theorem word_iff (s : ByteArray) : wordB 18 (key8 s) = true ↔ s ∈ WL := by
  unfold wordB key8
  rw [show WL.take 18 = WL from rfl, List.any_eq_true]
  constructor
  · rintro ⟨x, hx, e⟩
    have e2 : x.data.toList = s.data.toList := by simpa using e
    have : x = s := by
      cases x; cases s
      congr 1
      exact Array.ext' e2
    exact this ▸ hx
  · intro h
    exact ⟨s, h, by simp⟩
theorem ne_list {s : ByteArray} {l : List UInt8} (h : ¬ s = ⟨l.toArray⟩) : (s.toList == l) = false := by
  rw [ByteArray.toList_eq]
  simp only [beq_eq_false_iff_ne, ne_eq]
  intro e
  apply h
  cases s
  congr 1
  rw [← e]
theorem word_no {s : ByteArray} (h : wordB 18 (key8 s) = false) : (s.toList == [97, 110, 100]) = false ∧ (s.toList == [98, 114, 101, 97, 107]) = false ∧ (s.toList == [99, 104, 97, 110, 110, 101, 108]) = false ∧ (s.toList == [100, 111]) = false ∧ (s.toList == [101, 108, 115, 101]) = false ∧ (s.toList == [101, 108, 115, 101, 105, 102]) = false ∧ (s.toList == [101, 110, 100]) = false ∧ (s.toList == [102, 97, 108, 115, 101]) = false ∧ (s.toList == [102, 117, 110, 99, 116, 105, 111, 110]) = false ∧ (s.toList == [105, 102]) = false ∧ (s.toList == [108, 111, 99, 97, 108]) = false ∧ (s.toList == [110, 105, 108]) = false ∧ (s.toList == [110, 111, 116]) = false ∧ (s.toList == [111, 114]) = false ∧ (s.toList == [114, 101, 116, 117, 114, 110]) = false ∧ (s.toList == [116, 104, 101, 110]) = false ∧ (s.toList == [116, 114, 117, 101]) = false ∧ (s.toList == [119, 104, 105, 108, 101]) = false := by
  have h1 : ¬ s ∈ WL := fun hm => by
    rw [(word_iff s).2 hm] at h
    cases h
  simp only [WL, List.mem_cons, List.not_mem_nil, or_false, not_or] at h1
  obtain ⟨h0, h1, h2, h3, h4, h5, h6, h7, h8, h9, h10, h11, h12, h13, h14, h15, h16, h17⟩ := h1
  exact ⟨ne_list h0, ne_list h1, ne_list h2, ne_list h3, ne_list h4, ne_list h5, ne_list h6, ne_list h7, ne_list h8, ne_list h9, ne_list h10, ne_list h11, ne_list h12, ne_list h13, ne_list h14, ne_list h15, ne_list h16, ne_list h17⟩
set_option maxRecDepth 100000 in
set_option maxHeartbeats 4000000 in
theorem refWord_any (s : ByteArray) (w : World) : Calls Tryd.prog 28 #[.string s] w (BoolIs w (wordB 18 (key8 s))) := by
  cases hb : wordB 18 (key8 s) with
  | false =>
    obtain ⟨h0, h1, h2, h3, h4, h5, h6, h7, h8, h9, h10, h11, h12, h13, h14, h15, h16, h17⟩ := word_no hb
    clear hb
    go_enter Tryd.func28, Tryd.ntmps28
    go_wp2
    go_ret
    exact ⟨rfl, rfl⟩
  | true =>
    have hm := (word_iff s).1 hb
    clear hb
    simp only [WL, List.mem_cons, List.not_mem_nil, or_false] at hm
    rcases hm with rfl | rfl | rfl | rfl | rfl | rfl | rfl | rfl | rfl | rfl | rfl | rfl | rfl | rfl | rfl | rfl | rfl | rfl
    all_goals
      go_enter Tryd.func28, Tryd.ntmps28
      go_wp2
      go_ret
      exact ⟨rfl, rfl⟩
set_option maxRecDepth 100000 in
set_option maxHeartbeats 2000000 in
theorem refRun_any (s : ByteArray) (hs : s.size ≤ 1000000000) (w : World) : Calls Tryd.prog 42 #[.string s] w fun e w' => e = .returned (.int .i64 (runN s.data.toList : Int)) ∧ w = w' := by
  have HStop : Hid (∀ k (hk : k < s.size), (∀ j (hj : j < k), parB ((s[j]'(by omega)).toNat : Int) = true) → parB (s[k].toNat : Int) = false → runN s.data.toList = k) := Lib.hid fun k hk ha hs => runN_stop (l := s.data.toList) (by simpa using hk) (fun j hj => ha j hj) hs
  have HAll : Hid ((∀ j (hj : j < s.size), parB (s[j].toNat : Int) = true) → runN s.data.toList = s.size) := Lib.hid fun ha => by
    have := runN_all (l := s.data.toList) fun j hj => ha j (by simpa using hj)
    simpa using this
  obtain ⟨m, hm⟩ : ∃ m, runN s.data.toList = m := ⟨_, rfl⟩
  rw [hm] at HStop HAll ⊢
  clear hm
  go_enter Tryd.func42, Tryd.ntmps42
  go_wp2
  go_loop [3] (fun i => ∃ k : Nat, i = .int .i64 k ∧ k ≤ s.size ∧ Hid (∀ j (hj : j < k) (hk : j < s.size), parB (s[j].toNat : Int) = true)) (fun i => s.size - (intOf i).toNat)
  case atStart => exact ⟨0, rfl, Nat.zero_le _, Lib.hid (fun j hj => by omega)⟩
  case round =>
    obtain ⟨k, rfl, hk, HF⟩ := hrel
    by_cases hlt : k < s.size
    · have HP := fun W => Lib.hid (refPart_any (s[k].toNat : Int) W)
      obtain ⟨pb, hpb⟩ : ∃ b, parB (s[k].toNat : Int) = b := ⟨_, rfl⟩
      rw [hpb] at HP
      have HPb := Lib.hid hpb
      have HG : Hid (parB (s[k].toNat : Int) = true → ∀ j (hj : j < k + 1) (hk : j < s.size), parB (s[j].toNat : Int) = true) := Lib.hid fun h j hj hjs => by
        by_cases hjk : j < k
        · exact HF.out j hjk hjs
        · have : j = k := by omega
          subst this
          exact h
      clear hpb
      cases pb
      · have hr := HStop.out k hlt (fun j hj => HF.out j hj (by omega)) HPb.out
        subst hr
        go_wp2_with fail
        refine ((HP _).out).mono ?_
        rintro e w1 ⟨rfl, rfl⟩
        go_wp2
        go_ret
        exact ⟨rfl, rfl⟩
      · have HF2 := Lib.hid (HG.out HPb.out)
        clear HStop HAll HG
        go_wp2_with fail
        refine ((HP _).out).mono ?_
        rintro e w1 ⟨rfl, rfl⟩
        go_wp2
        go_round
        case rel => exact ⟨k + 1, by go_num, by omega, HF2⟩
        case measure => simp [intOf]; omega
    · have : k = s.size := by omega
      subst this
      have hr := HAll.out (fun j hj => HF.out j hj hj)
      subst hr
      go_wp2
      go_ret
      exact ⟨rfl, rfl⟩
end LexD
end Go.Proofs.YthlclmjcdpffbaaDoor
