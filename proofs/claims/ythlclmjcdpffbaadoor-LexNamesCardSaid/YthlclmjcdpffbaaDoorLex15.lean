/- The document's signs. -/
import Derived.Test.YthlclmjcdpffbaaDoorLex14
namespace Go.Proofs.YthlclmjcdpffbaaDoor
open Go.RowKit ObjM Go.Maps
namespace LexD

theorem take2_list (s : ByteArray) : (s.extract 0 2).toList = s.data.toList.take 2 := by
  rw [ByteArray.toList_eq, ext_toList]
  simp
theorem list_eq_of {T : ByteArray} {l : List UInt8} (h : T.toList = l) : T = ⟨l.toArray⟩ := by
  rw [ByteArray.toList_eq] at h
  cases T
  congr 1
  exact Array.ext' (by simpa using h)
theorem two_no {s : ByteArray} (h : ∀ k, k < 7 → Lib.hasPrefix s.data.toList (sgB k) = false) : ((s.extract 0 2).toList == [61, 61]) = false ∧ ((s.extract 0 2).toList == [126, 61]) = false ∧ ((s.extract 0 2).toList == [60, 61]) = false ∧ ((s.extract 0 2).toList == [62, 61]) = false ∧ ((s.extract 0 2).toList == [47, 47]) = false ∧ ((s.extract 0 2).toList == [46, 46]) = false ∧ ((s.extract 0 2).toList == [45, 62]) = false := by
  have hk : ∀ k, k < 7 → ((s.extract 0 2).toList == sgB k) = false := fun k hk => by
    rw [take2_list]
    simp only [beq_eq_false_iff_ne, ne_eq]
    intro e
    have := (sg_pref hk).2 e
    rw [h k hk] at this
    cases this
  exact ⟨hk 0 (by decide), hk 1 (by decide), hk 2 (by decide), hk 3 (by decide), hk 4 (by decide), hk 5 (by decide), hk 6 (by decide)⟩
theorem one_no {n : Nat} (h : ¬ UInt8.ofNat n ∈ sg1) : ((n : Int) == 43) = false ∧ ((n : Int) == 45) = false ∧ ((n : Int) == 42) = false ∧ ((n : Int) == 37) = false ∧ ((n : Int) == 60) = false ∧ ((n : Int) == 62) = false ∧ ((n : Int) == 61) = false ∧ ((n : Int) == 40) = false ∧ ((n : Int) == 41) = false ∧ ((n : Int) == 123) = false ∧ ((n : Int) == 125) = false ∧ ((n : Int) == 91) = false ∧ ((n : Int) == 93) = false ∧ ((n : Int) == 44) = false ∧ ((n : Int) == 58) = false ∧ ((n : Int) == 59) = false ∧ ((n : Int) == 46) = false ∧ ((n : Int) == 35) = false ∧ ((n : Int) == 124) = false ∧ ((n : Int) == 64) = false := by
  have h2 : ∀ m : Nat, UInt8.ofNat m ∈ sg1 → ((n : Int) == (m : Int)) = false := fun m hm => by
    simp only [beq_eq_false_iff_ne, ne_eq]
    intro e
    have : n = m := by omega
    subst this
    exact h hm
  exact ⟨h2 43 (by decide), h2 45 (by decide), h2 42 (by decide), h2 37 (by decide), h2 60 (by decide), h2 62 (by decide), h2 61 (by decide), h2 40 (by decide), h2 41 (by decide), h2 123 (by decide), h2 125 (by decide), h2 91 (by decide), h2 93 (by decide), h2 44 (by decide), h2 58 (by decide), h2 59 (by decide), h2 46 (by decide), h2 35 (by decide), h2 124 (by decide), h2 64 (by decide)⟩
theorem one_yes {n : Nat} (hn : n < 256) (h : UInt8.ofNat n ∈ sg1) : n = 43 ∨ n = 45 ∨ n = 42 ∨ n = 37 ∨ n = 60 ∨ n = 62 ∨ n = 61 ∨ n = 40 ∨ n = 41 ∨ n = 123 ∨ n = 125 ∨ n = 91 ∨ n = 93 ∨ n = 44 ∨ n = 58 ∨ n = 59 ∨ n = 46 ∨ n = 35 ∨ n = 124 ∨ n = 64 := by
  have h2 : ∀ m : Fin 256, UInt8.ofNat m.val ∈ sg1 → m.val = 43 ∨ m.val = 45 ∨ m.val = 42 ∨ m.val = 37 ∨ m.val = 60 ∨ m.val = 62 ∨ m.val = 61 ∨ m.val = 40 ∨ m.val = 41 ∨ m.val = 123 ∨ m.val = 125 ∨ m.val = 91 ∨ m.val = 93 ∨ m.val = 44 ∨ m.val = 58 ∨ m.val = 59 ∨ m.val = 46 ∨ m.val = 35 ∨ m.val = 124 ∨ m.val = 64 := by decide +kernel
  exact h2 ⟨n, hn⟩ h
set_option maxRecDepth 100000 in
set_option maxHeartbeats 8000000 in
theorem refSign_two (s : ByteArray) (k : Nat) (hk : k < 7) (hp : Lib.hasPrefix s.data.toList (sgB k) = true) (hs : s.size ≤ 1000000000) (w : World) : Calls Tryd.prog 45 #[.string s] w fun e w' => e = .returned (.int .i64 2) ∧ w = w' := by
  have h2 : (s.extract 0 2).toList = sgB k := by rw [take2_list]; exact (sg_pref hk).1 hp
  have hsz : 2 ≤ s.size := by
    have h3 := congrArg List.length h2
    rw [take2_list] at h3
    have h4 : (sgB k).length = 2 := by
      have : k = 0 ∨ k = 1 ∨ k = 2 ∨ k = 3 ∨ k = 4 ∨ k = 5 ∨ k = 6 := by omega
      rcases this with rfl | rfl | rfl | rfl | rfl | rfl | rfl <;> rfl
    rw [h4] at h3
    simp at h3
    omega
  have hT := list_eq_of h2
  have hi : (2 : Int) ≤ (s.size : Int) := by omega
  clear hp h2 hsz
  have : k = 0 ∨ k = 1 ∨ k = 2 ∨ k = 3 ∨ k = 4 ∨ k = 5 ∨ k = 6 := by omega
  clear hk
  rcases this with rfl | rfl | rfl | rfl | rfl | rfl | rfl
  all_goals
    simp only [sgB, SG, List.getD_cons_zero, List.getD_cons_succ] at hT
    go_enter Tryd.func45, Tryd.ntmps45
    go_wp2
    go_ret
    exact ⟨rfl, rfl⟩
set_option maxRecDepth 100000 in
set_option maxHeartbeats 8000000 in
theorem refSign_one (s : ByteArray) (h0 : 0 < s.size) (hno : ∀ k, k < 7 → Lib.hasPrefix s.data.toList (sgB k) = false) (hs : s.size ≤ 1000000000) (w : World) : Calls Tryd.prog 45 #[.string s] w fun e w' => e = .returned (.int .i64 (if s[0] ∈ sg1 then 1 else 0)) ∧ w = w' := by
  obtain ⟨t0, t1, t2, t3, t4, t5, t6⟩ := two_no hno
  obtain ⟨n, hn⟩ : ∃ n, s[0].toNat = n := ⟨_, rfl⟩
  have hU : s[0] = UInt8.ofNat n := by rw [← hn]; simp
  have hn256 : n < 256 := by rw [← hn]; exact UInt8.toNat_lt _
  have hi0 : (0 : Int) < (s.size : Int) := by omega
  rw [hU]
  clear hU hno
  have hlen : ((2 : Int) ≤ (s.size : Int)) ∨ ¬ ((2 : Int) ≤ (s.size : Int)) := by omega
  by_cases hm : UInt8.ofNat n ∈ sg1
  · rw [if_pos hm]
    have hc := one_yes hn256 hm
    clear hm
    rcases hlen with hlen | hlen
    all_goals
      rcases hc with rfl | rfl | rfl | rfl | rfl | rfl | rfl | rfl | rfl | rfl | rfl | rfl | rfl | rfl | rfl | rfl | rfl | rfl | rfl | rfl
      all_goals
        go_enter Tryd.func45, Tryd.ntmps45
        go_wp2
        go_ret
        exact ⟨rfl, rfl⟩
  · rw [if_neg hm]
    obtain ⟨n43, n45, n42, n37, n60, n62, n61, n40, n41, n123, n125, n91, n93, n44, n58, n59, n46, n35, n124, n64⟩ := one_no hm
    clear hm
    rcases hlen with hlen | hlen
    all_goals
      go_enter Tryd.func45, Tryd.ntmps45
      go_wp2
      go_ret
      exact ⟨rfl, rfl⟩
theorem refSign_any (s : ByteArray) (h0 : 0 < s.size) (hs : s.size ≤ 1000000000) (w : World) : Calls Tryd.prog 45 #[.string s] w fun e w' => e = .returned (.int .i64 (signN s.data.toList : Int)) ∧ w = w' := by
  obtain ⟨r, hr⟩ := list_zero h0
  by_cases h : ∀ k, k < 7 → Lib.hasPrefix s.data.toList (sgB k) = false
  · have e : (signN s.data.toList : Int) = if s[0] ∈ sg1 then 1 else 0 := by
      rw [hr] at h ⊢
      rw [sign_one h]
      split <;> rfl
    rw [e]
    exact refSign_one s h0 h hs w
  · have : ∃ k, k < 7 ∧ Lib.hasPrefix s.data.toList (sgB k) = true := by
      apply Classical.byContradiction
      intro hne
      apply h
      intro k hk
      cases hb : Lib.hasPrefix s.data.toList (sgB k) with
      | false => rfl
      | true => exact absurd ⟨k, hk, hb⟩ hne
    obtain ⟨k, hk, hb⟩ := this
    have e : (signN s.data.toList : Int) = 2 := by
      have hb2 := hb
      rw [hr] at hb2 ⊢
      rw [(sign_two hk hb2).1]
      rfl
    rw [e]
    exact refSign_two s k hk hb hs w
end LexD
end Go.Proofs.YthlclmjcdpffbaaDoor
