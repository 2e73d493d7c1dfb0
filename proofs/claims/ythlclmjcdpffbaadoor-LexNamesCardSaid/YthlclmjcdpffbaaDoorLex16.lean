/- The document's blanks. -/
import Derived.Test.YthlclmjcdpffbaaDoorLex15
namespace Go.Proofs.YthlclmjcdpffbaaDoor
open Go.RowKit ObjM Go.Maps
namespace LexD

/-- How many bytes of blanks and notes stand at the beginning; the first k bytes are passed over. -/
def blK : Nat → List UInt8 → Nat
  | _, [] => 0
  | k + 1, _ :: r => blK k r + 1
  | 0, c :: r => match stepB (c :: r) with
    | some k => blK (k - 1) r + 1
    | none => 0
theorem blK_nil (k : Nat) : blK k [] = 0 := by cases k <;> rfl
theorem blK_drop {k : Nat} {l : List UInt8} (h : k ≤ l.length) : blK k l = k + blK 0 (l.drop k) := by
  induction k generalizing l with
  | zero => simp
  | succ k ih =>
    cases l with
    | nil => simp at h
    | cons c r =>
      show blK k r + 1 = _
      rw [ih (by simpa using h), List.drop_succ_cons]
      omega
theorem bl_some {l : List UInt8} {k : Nat} (h : stepB l = some k) : blK 0 l = k + blK 0 (l.drop k) := by
  have h1 := stepB_pos h
  have h2 := stepB_le h
  cases l with
  | nil => cases h
  | cons c r =>
    rw [blK, h]
    show blK (k - 1) r + 1 = _
    have h3 : k ≤ r.length + 1 := h2
    rw [blK_drop (by omega)]
    cases k with
    | zero => omega
    | succ k => simp; omega
theorem bl_none {l : List UInt8} (h : stepB l = none) : blK 0 l = 0 := by
  cases l with
  | nil => rfl
  | cons c r => rw [blK, h]
theorem blK_le (l : List UInt8) : blK 0 l ≤ l.length := by
  have : ∀ n, ∀ l : List UInt8, l.length = n → blK 0 l ≤ l.length := by
    intro n
    induction n using Nat.strongRecOn with
    | _ n ih =>
      intro l hl
      cases h : stepB l with
      | none => rw [bl_none h]; omega
      | some k =>
        have h1 := stepB_pos h
        have h2 := stepB_le h
        rw [bl_some h]
        have := ih (l.drop k).length (by simp; omega) (l.drop k) rfl
        simp at this
        omega
  exact this l.length l rfl
/-- Behind its blanks a text goes on, and there no blank stands. -/
theorem bl_scan (l : List UInt8) (p : Nat) : scanK 0 p (l.drop p) = scanK 0 (p + blK 0 (l.drop p)) (l.drop (p + blK 0 (l.drop p))) ∧ stepB (l.drop (p + blK 0 (l.drop p))) = none := by
  have : ∀ n, ∀ p, l.length - p = n → scanK 0 p (l.drop p) = scanK 0 (p + blK 0 (l.drop p)) (l.drop (p + blK 0 (l.drop p))) ∧ stepB (l.drop (p + blK 0 (l.drop p))) = none := by
    intro n
    induction n using Nat.strongRecOn with
    | _ n ih =>
      intro p hl
      cases h : stepB (l.drop p) with
      | none => rw [bl_none h]; exact ⟨rfl, h⟩
      | some k =>
        have h1 := stepB_pos h
        have h2 := stepB_le h
        simp at h2
        have h3 := bl_some h
        rw [List.drop_drop] at h3
        have := ih (l.length - (p + k)) (by omega) (p + k) rfl
        rw [h3, ← Nat.add_assoc]
        rw [scan_blank h1 h]
        exact this
  exact this _ p rfl
theorem blank_cases {n : Nat} (hn : n < 256) (h : blankB (UInt8.ofNat n) = true) : n = 32 ∨ n = 9 ∨ n = 10 ∨ n = 13 := by
  have h2 : ∀ m : Fin 256, blankB (UInt8.ofNat m.val) = true → m.val = 32 ∨ m.val = 9 ∨ m.val = 10 ∨ m.val = 13 := by decide +kernel
  exact h2 ⟨n, hn⟩ h
theorem blank_not {n : Nat} (h : blankB (UInt8.ofNat n) = false) : ((n : Int) == 32) = false ∧ ((n : Int) == 9) = false ∧ ((n : Int) == 10) = false ∧ ((n : Int) == 13) = false := by
  have h2 : ∀ m : Nat, blankB (UInt8.ofNat m) = true → ((n : Int) == (m : Int)) = false := fun m hm => by
    simp only [beq_eq_false_iff_ne, ne_eq]
    intro e
    have : n = m := by omega
    subst this
    rw [h] at hm
    cases hm
  exact ⟨h2 32 (by decide), h2 9 (by decide), h2 10 (by decide), h2 13 (by decide)⟩
theorem ext2_list (s : ByteArray) (n : Nat) : (s.extract n (n + 2)).toList = (s.data.toList.drop n).take 2 := by
  rw [ByteArray.toList_eq, ext_toList]
  simp
theorem dash_iff (l : List UInt8) : Lib.hasPrefix l [45, 45] = (l.take 2 == [45, 45]) := by
  match l with
  | [] => rfl
  | [a] => simp [Lib.hasPrefix, List.isPrefixOf]
  | a :: b :: r =>
    show ((45 == a) && ((45 == b) && true)) = ((a == 45) && ((b == 45) && true))
    rw [Bool.and_true, Bool.and_true, BEq.comm (a := 45), BEq.comm (a := 45) (b := b)]
theorem note_stop {l : List UInt8} {n k : Nat} (hk : n + k < l.length) (ha : ∀ j, j < k → (hj : n + j < l.length) → l[n + j] ≠ 10) (hs : l[n + k] = 10) : noteN (l.drop n) = k := by
  have hd : (l.drop n).length = l.length - n := by simp
  have key : ∀ (l : List UInt8) (k : Nat) (hk : k < l.length), (∀ j (hj : j < k), l[j]'(by omega) ≠ 10) → l[k] = 10 → noteN l = k := by
    intro l
    induction l with
    | nil => intro k hk; simp at hk
    | cons a r ih =>
      intro k hk ha hs
      unfold noteN
      rw [List.takeWhile_cons]
      cases k with
      | zero =>
        have : a = 10 := hs
        simp [this]
      | succ k =>
        have h0 : a ≠ 10 := ha 0 (by omega)
        have := ih k (by simpa using hk) (fun j hj => ha (j + 1) (by omega)) hs
        simp [h0]
        exact this
  exact key _ k (by omega) (fun j hj => by rw [List.getElem_drop]; exact ha j hj (by omega)) (by rw [List.getElem_drop]; exact hs)
theorem while_all {l : List UInt8} {f : UInt8 → Bool} (h : ∀ x ∈ l, f x = true) : l.takeWhile f = l := by
  induction l with
  | nil => rfl
  | cons a r ih => rw [List.takeWhile_cons, h a (by simp), ih (fun x hx => h x (by simp [hx]))]; rfl
theorem note_all {l : List UInt8} {n : Nat} (hn : n ≤ l.length) (ha : ∀ j, n + j < l.length → (hj : n + j < l.length) → l[n + j] ≠ 10) : noteN (l.drop n) = l.length - n := by
  unfold noteN
  rw [while_all]
  · simp
  · intro x hx
    obtain ⟨j, hj, rfl⟩ := List.mem_iff_getElem.1 hx
    rw [List.getElem_drop]
    simp at hj
    have := ha j (by omega) (by omega)
    simpa using this
set_option maxRecDepth 100000 in
set_option maxHeartbeats 4000000 in
theorem refBlank_any (s : ByteArray) (hs : s.size ≤ 1000000000) (w : World) : Calls Tryd.prog 23 #[.string s] w fun e w' => e = .returned (.int .i64 (blK 0 s.data.toList : Int)) ∧ w = w' := by
  have HN : Hid (∀ n, n ≤ s.size → blK 0 s.data.toList = n + blK 0 (s.data.toList.drop n) → stepB (s.data.toList.drop n) = none → blK 0 s.data.toList = n) := Lib.hid (fun n hn h h2 => by rw [h, bl_none h2]; omega)
  go_enter Tryd.func23, Tryd.ntmps23
  go_wp2
  go_loopw [3] (fun i wr => ∃ n : Nat, i = .int .i64 n ∧ n ≤ s.size ∧ Hid (wr = w) ∧ Hid (blK 0 s.data.toList = n + blK 0 (s.data.toList.drop n))) (fun i _ => s.size - (intOf i).toNat)
  case atStart => exact ⟨0, rfl, by omega, Lib.hid rfl, Lib.hid (by simp)⟩
  case round =>
    obtain ⟨n, rfl, hn, HW, HB⟩ := hrel
    obtain rfl := HW.out
    clear HW
    by_cases hlt : n < s.size
    · have hi1 : (n : Int) < (s.size : Int) := by omega
      have hc := drop_at hlt
      obtain ⟨m, hm⟩ : ∃ m, s[n].toNat = m := ⟨_, rfl⟩
      have hU : s[n] = UInt8.ofNat m := by rw [← hm]; simp
      have hm256 : m < 256 := by rw [← hm]; exact UInt8.toNat_lt _
      rw [hU] at hc
      cases hbl : blankB (UInt8.ofNat m) with
      | true =>
        have HB2 : Hid (blK 0 s.data.toList = (n + 1) + blK 0 (s.data.toList.drop (n + 1))) := Lib.hid (by
          have h1 : stepB (s.data.toList.drop n) = some 1 := by rw [hc, stepB, if_pos hbl]
          rw [HB.out, bl_some h1, List.drop_drop]
          omega)
        have hcs := blank_cases hm256 hbl
        clear hbl hc hU HB HN
        rcases hcs with rfl | rfl | rfl | rfl
        all_goals
          go_wp2
          go_roundw
          case rel => exact ⟨n + 1, by go_num, by omega, (by first | exact Lib.hid rfl | exact Lib.hid trivial), HB2⟩
          case measure => simp [intOf]; omega
      | false =>
        obtain ⟨n1, n2, n3, n4⟩ := blank_not hbl
        cases hd : Lib.hasPrefix (s.data.toList.drop n) [45, 45] with
        | true =>
          have hl2 : ((s.data.toList.drop n).take 2).length = 2 := by
            rw [dash_iff] at hd
            rw [eq_of_beq hd]
            rfl
          simp at hl2
          have hlen : (n : Int) + 1 < (s.size : Int) := by omega
          have hlen2 : (n : Int) + 2 ≤ (s.size : Int) := by omega
          have he : ((s.extract n (n + 2)).toList == [45, 45]) = true := by rw [ext2_list, ← dash_iff]; exact hd
          have HSt : Hid (stepB (s.data.toList.drop n) = some (noteN (s.data.toList.drop n))) := Lib.hid (by
            rw [hc] at hd ⊢
            rw [stepB, hbl, hd]
            rfl)
          have HPos := Lib.hid (stepB_pos HSt.out)
          clear hl2 hbl hd hc hU HN
          go_wp2
          go_loopw [3] (fun i wr2 => ∃ k : Nat, i = .int .i64 ((n + k : Nat) : Int) ∧ n + k ≤ s.size ∧ Hid (wr2 = wr) ∧ Hid (∀ j, j < k → (hj : n + j < s.data.toList.length) → s.data.toList[n + j] ≠ 10)) (fun i _ => s.size - (intOf i).toNat)
          case atStart => exact ⟨0, rfl, hn, Lib.hid rfl, Lib.hid (fun j hj => by omega)⟩
          case round =>
            obtain ⟨k, rfl, hk, HW2, HA⟩ := hrel
            obtain rfl := HW2.out
            clear HW2
            have HFin : Hid (noteN (s.data.toList.drop n) = k → blK 0 s.data.toList = (n + k) + blK 0 (s.data.toList.drop (n + k)) ∧ 1 ≤ k) := Lib.hid (fun h => by
              have h1 := HSt.out
              have h2 := HPos.out
              rw [h] at h1 h2
              refine ⟨?_, h2⟩
              rw [HB.out, bl_some h1, List.drop_drop]
              omega)
            obtain ⟨q, hq⟩ : ∃ q, n + k = q := ⟨_, rfl⟩
            rw [hq] at hk ⊢
            have HQ := Lib.hid hq
            clear hq
            by_cases hlt2 : q < s.size
            · have hi2 : (q : Int) < (s.size : Int) := by omega
              obtain ⟨m2, hm2⟩ : ∃ m, s[q].toNat = m := ⟨_, rfl⟩
              have hU2 : s[q] = UInt8.ofNat m2 := by rw [← hm2]; simp
              have hm2b : m2 < 256 := by rw [← hm2]; exact UInt8.toNat_lt _
              by_cases h10 : m2 = 10
              · subst h10
                have HE := Lib.hid (HFin.out (note_stop (by have := HQ.out; simpa [this] using hlt2) (fun j hj hjl => HA.out j hj hjl) (by simp only [HQ.out]; exact hU2)))
                have hk1 := HE.out.2
                clear hU2 HA HFin
                go_wp2
                go_roundw
                case rel => exact ⟨q, by go_num, by omega, (by first | exact Lib.hid rfl | exact Lib.hid trivial), Lib.hid (by have := HE.out.1; rwa [HQ.out] at this)⟩
                case measure => have := HQ.out; simp [intOf]; omega
              · have h10b : ((m2 : Int) != 10) = true := by simp; omega
                have HA2 : Hid (∀ j, j < k + 1 → (hj : n + j < s.data.toList.length) → s.data.toList[n + j] ≠ 10) := Lib.hid (fun j hj hjl => by
                  by_cases e : j = k
                  · subst e
                    simp only [HQ.out]
                    intro h
                    have h2 : s[q] = 10 := h
                    rw [hU2] at h2
                    have := congrArg UInt8.toNat h2
                    simp at this
                    omega
                  · exact HA.out j (by omega) hjl)
                clear hU2 HA HFin
                go_wp2
                go_roundw
                case rel => exact ⟨k + 1, by have := HQ.out; go_num, by have := HQ.out; omega, (by first | exact Lib.hid rfl | exact Lib.hid trivial), HA2⟩
                case measure => simp [intOf]; omega
            · have hqs : q = s.size := by omega
              have HE := Lib.hid (HFin.out (by
                have := note_all (l := s.data.toList) (n := n) (by simp; omega) (fun j hj hjl => HA.out j (by have := HQ.out; simp at hj; omega) hjl)
                rw [this]
                have := HQ.out
                simp
                omega))
              have hk1 := HE.out.2
              clear HA HFin
              subst hqs
              go_wp2
              go_roundw
              case rel => exact ⟨s.size, by go_num, by omega, (by first | exact Lib.hid rfl | exact Lib.hid trivial), Lib.hid (by have := HE.out.1; rwa [HQ.out] at this)⟩
              case measure => have := HQ.out; simp [intOf]; omega
        | false =>
          have hR := HN.out n hn HB.out (by rw [hc, stepB, hbl, ← hc, hd]; rfl)
          have he : ¬ ((n : Int) + 1 < (s.size : Int)) ∨ ((n : Int) + 1 < (s.size : Int) ∧ (n : Int) + 2 ≤ (s.size : Int) ∧ ((s.extract n (n + 2)).toList == [45, 45]) = false) := by
            by_cases h : n + 1 < s.size
            · refine .inr ⟨by omega, by omega, ?_⟩
              rw [ext2_list, ← dash_iff]
              exact hd
            · exact .inl (by omega)
          have HR := Lib.hid hR
          clear hR HN HB hbl hd hc hU
          rcases he with he | ⟨he, he2, he3⟩
          all_goals
            go_wp2
            go_ret
            rw [HR.out]
            exact ⟨rfl, rfl⟩
    · have hns : n = s.size := by omega
      have hR := HN.out n hn HB.out (by rw [List.drop_eq_nil_of_le (by simp; omega)]; rfl)
      have HR := Lib.hid hR
      clear hR HN HB
      subst hns
      go_wp2
      go_ret
      rw [HR.out]
      exact ⟨rfl, rfl⟩
end LexD
end Go.Proofs.YthlclmjcdpffbaaDoor
