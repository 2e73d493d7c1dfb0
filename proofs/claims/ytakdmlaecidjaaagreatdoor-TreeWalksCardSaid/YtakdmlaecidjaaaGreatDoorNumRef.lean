/- The contract of the document's own reader of numbers: NumM.numV of the text. -/
import Derived.Test.YtakdmlaecidjaaaGreatDoorNumRead
namespace Go.Proofs.YtakdmlaecidjaaaGreatDoor
open Go.RowKit
namespace NumD
open NumM

theorem take2 (s : ByteArray) : (s.extract 0 2).toList = s.data.toList.take 2 := by
  rw [Lib.toList_data, ByteArray.data_extract, Array.toList_extract]
  rfl
theorem pre_eq (l : List UInt8) : Lib.hasPrefix l [48, 120] = (l.take 2 == [48, 120]) := by
  unfold Lib.hasPrefix
  match l with
  | [] => rfl
  | [a] => simp [List.isPrefixOf]
  | a :: b :: r =>
    show ((48 == a) && ((120 == b) && true)) = ((a == 48) && ((b == 120) && true))
    rw [Bool.and_true, Bool.and_true, BEq.comm (a := 48), BEq.comm (a := 120)]
theorem pre_yes {s : ByteArray} (h : Lib.hasPrefix s.data.toList [48, 120] = true) : 2 ≤ s.size ∧ ((s.extract 0 2).toList == [48, 120]) = true := by
  rw [pre_eq] at h
  refine ⟨?_, by rw [take2]; exact h⟩
  have h1 : (s.data.toList.take 2).length = 2 := by rw [eq_of_beq h]; rfl
  rw [List.length_take] at h1
  have h2 : s.data.toList.length = s.size := rfl
  omega
theorem pre_no {s : ByteArray} (h : Lib.hasPrefix s.data.toList [48, 120] = false) : ((s.extract 0 2).toList == [48, 120]) = false := by
  rw [pre_eq] at h
  rw [take2]
  exact h
theorem pre_short {s : ByteArray} (h : Lib.hasPrefix s.data.toList [48, 120] = true) (h3 : s.size ≤ 2) : hexV (s.data.toList.drop 2) = decV s.data.toList := by
  have h2 : s.data.toList.length = s.size := rfl
  rw [pre_eq, List.take_of_length_le (by omega)] at h
  rw [eq_of_beq h]
  decide
theorem u64_eq (x : Int) : IntKind.u64.wrap x = x % 18446744073709551616 := by simp [IntKind.wrap, IntKind.bits, IntKind.signed]
theorem u64_step (n d : Int) : wrap64 (IntKind.u64.wrap (IntKind.u64.wrap (16 * n) + d)) = wrap64 (wrap64 n * 16 + d) := by
  rw [u64_eq, u64_eq]
  unfold wrap64
  omega
theorem u64_lo (x : Int) : 0 ≤ IntKind.u64.wrap x := by rw [u64_eq]; omega
theorem u64_hi (x : Int) : IntKind.u64.wrap x ≤ 18446744073709551615 := by rw [u64_eq]; omega
theorem el_drop {s : ByteArray} {k : Nat} (hl : k < (s.data.toList.drop 2).length) (hlt : k + 2 < s.size) : Hid (digV (s[k + 2].toNat : Int) = digV (((s.data.toList.drop 2)[k]).toNat : Int)) := by
  show digV (s[k + 2].toNat : Int) = digV (((s.data.toList.drop 2)[k]).toNat : Int)
  rw [List.getElem_drop]
  simp only [Nat.add_comm 2 k]
  rfl
theorem hexV_long {l : List UInt8} (h : 16 < l.length) : hexV l = (0, false) := by unfold hexV; rw [if_pos (.inr h)]

set_option maxHeartbeats 400000 in
/-- The hexadecimal way. -/
theorem refHex_any (s : ByteArray) (w : World) (hs : s.size ≤ 1000000) (h3 : 3 ≤ s.size) (hpre : ((s.extract 0 2).toList == [48, 120]) = true) :
    Calls Tryz.prog 41 #[.string s] w fun e w' => e = .returned (.tuple #[.int .i64 (hexV (s.data.toList.drop 2)).1, .bool (hexV (s.data.toList.drop 2)).2]) ∧ w = w' := by
  go_enter Tryz.func41, Tryz.ntmps41
  go_wp2
  go_loop [4, 5] (fun nv i => ∃ (k : Nat) (n : Int), i = .int .i64 (k + 2) ∧ nv = .int .u64 n ∧ k + 2 ≤ s.size ∧ k ≤ 16 ∧ 0 ≤ n ∧ n ≤ 18446744073709551615 ∧ Hid (hexF ((s.data.toList.drop 2).drop k) (wrap64 n) = hexF (s.data.toList.drop 2) 0)) (fun _ i => s.size - (intOf i).toNat)
  case atStart => exact ⟨0, 0, rfl, rfl, by omega, by omega, by omega, by omega, show hexF _ (wrap64 0) = _ from by rw [w64_id (by omega) (by omega)]; rfl⟩
  case round =>
    obtain ⟨k, n, rfl, rfl, hk, hk16, hn0, hn1, HD⟩ := hrel
    by_cases hlt : k + 2 < s.size
    · have hl : k < (s.data.toList.drop 2).length := by rw [List.length_drop]; show k < s.size - 2; omega
      have hb0 := digV_lo (s[k + 2].toNat : Int)
      have hb1 := digV_hi (s[k + 2].toNat : Int)
      have hlt2 := UInt8.toNat_lt s[k + 2]
      have he := el_drop hl hlt
      go_wp2_with (go_at_call 66; refine (refDigit_any _ (by omega) (by omega) _).mono ?_; rintro e w' ⟨rfl, rfl⟩)
      · rename_i h15 hbad
        have hst : hexV (s.data.toList.drop 2) = (0, false) := by
          by_cases h16 : 16 < (s.data.toList.drop 2).length
          · exact hexV_long h16
          · have : s.size - 2 = (s.data.toList.drop 2).length := by rw [List.length_drop]; rfl
            omega
        go_ret2
        exact ⟨ret_ib (by rw [hst]) (by rw [hst]), rfl⟩
      · rename_i h15 hgood
        have hg := hex_go hl HD (by rw [← he.out]; exact h15)
        go_round
        case rel => exact ⟨k + 1, _, by go_num, rfl, by omega, by omega, u64_lo _, u64_hi _, show hexF _ _ = _ from by rw [u64_step, he.out]; exact hg⟩
        case measure => simp [intOf]; omega
      · rename_i h15
        have hst : hexV (s.data.toList.drop 2) = (0, false) := by
          by_cases h16 : 16 < (s.data.toList.drop 2).length
          · exact hexV_long h16
          · exact hex_stop hl (by omega) HD (by rw [← he.out]; exact h15)
        go_ret2
        exact ⟨ret_ib (by rw [hst]) (by rw [hst]), rfl⟩
    · have hlen : s.size - 2 = (s.data.toList.drop 2).length := by rw [List.length_drop]; rfl
      have hst := hex_end (l := s.data.toList.drop 2) (pos := k) (n := wrap64 n) (by omega) (by omega) (by intro h; rw [h] at hlen; simp at hlen; omega) HD
      have Hst := Lib.hid hst
      clear hst hlen
      go_wp2
      go_ret2
      exact ⟨ret_ib (by rw [Hst.out]) (by rw [Hst.out]), rfl⟩

set_option maxHeartbeats 400000 in
/-- The decimal way. -/
theorem refDec_any (s : ByteArray) (w : World) (hs : s.size ≤ 1000000) (hpre : 3 ≤ s.size → ((s.extract 0 2).toList == [48, 120]) = false) :
    Calls Tryz.prog 41 #[.string s] w fun e w' => e = .returned (.tuple #[.int .i64 (decV s.data.toList).1, .bool (decV s.data.toList).2]) ∧ w = w' := by
  by_cases h3 : 3 ≤ s.size
  all_goals
    try have h2 := hpre h3
    clear hpre
    go_enter Tryz.func41, Tryz.ntmps41
    go_wp2
    go_loop [7, 8] (fun nv i => ∃ (k : Nat) (n : Int), i = .int .i64 k ∧ nv = .int .i64 n ∧ k ≤ s.size ∧ 0 ≤ n ∧ n ≤ 9223372036854775807 ∧ Hid (decF (s.data.toList.drop k) n = decF s.data.toList 0)) (fun _ i => s.size - (intOf i).toNat)
    case atStart => exact ⟨0, 0, rfl, rfl, by omega, by omega, by omega, rfl⟩
    case round =>
      obtain ⟨k, n, rfl, rfl, hk, hn0, hn1, HD⟩ := hrel
      by_cases hlt : k < s.size
      · have hl : k < s.data.toList.length := hlt
        have hb0 := digV_lo (s[k].toNat : Int)
        have hb1 := digV_hi (s[k].toNat : Int)
        have hlt2 := UInt8.toNat_lt s[k]
        go_wp2_with (go_at_call 66; refine (refDigit_any _ (by omega) (by omega) _).mono ?_; rintro e w' ⟨rfl, rfl⟩)
        · rename_i h9 hbad
          have hst := dec_stop hl HD hbad
          go_ret2
          exact ⟨ret_ib (by rw [hst]) (by rw [hst]), rfl⟩
        · rename_i h9 hgood
          have hg := dec_go hl HD h9 hgood.2
          go_round
          case rel => exact ⟨k + 1, _, by go_num, rfl, by omega, by omega, by omega, show decF _ _ = _ from by rw [Int.mul_comm 10 n]; exact hg⟩
          case measure => simp [intOf]; omega
        · rename_i h9
          have hst := dec_stop hl HD (.inl h9)
          go_ret2
          exact ⟨ret_ib (by rw [hst]) (by rw [hst]), rfl⟩
      · have hst := dec_end (l := s.data.toList) hlt HD
        have Hst := Lib.hid hst
        clear hst
        go_wp2
        go_ret2
        exact ⟨ret_ib (by rw [Hst.out]) (by rw [Hst.out, Lib.toList_data]), rfl⟩

theorem refNumber_any (s : ByteArray) (w : World) (hs : s.size ≤ 1000000) :
    Calls Tryz.prog 41 #[.string s] w fun e w' => e = .returned (.tuple #[.int .i64 (numV s.data.toList).1, .bool (numV s.data.toList).2]) ∧ w = w' := by
  cases hpre : Lib.hasPrefix s.data.toList [48, 120]
  · have hx : numV s.data.toList = decV s.data.toList := by unfold numV; rw [if_neg (by simp [hpre])]
    rw [hx]
    exact refDec_any s w hs fun _ => pre_no hpre
  · have hx : numV s.data.toList = hexV (s.data.toList.drop 2) := by unfold numV; rw [if_pos hpre]
    have h2 := pre_yes hpre
    by_cases h3 : 3 ≤ s.size
    · rw [hx]
      exact refHex_any s w hs h3 h2.2
    · have : numV s.data.toList = decV s.data.toList := by
        rw [hx]
        exact pre_short hpre (by omega)
      rw [this]
      exact refDec_any s w hs fun h => absurd h h3
end NumD
end Go.Proofs.YtakdmlaecidjaaaGreatDoor
