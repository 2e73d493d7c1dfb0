/- The contracts of num.Number and of the document's own answer: NumM.numV of the text. -/
import Derived.Test.YtmdkocegnbcgmaaGreatDoorZ10
import Derived.Test.YtmdkocegnbcgmaaGreatDoorZ14
import Derived.Test.YtmdkocegnbcgmaaGreatDoorShelf
import Derived.Lib.OthersKept
import Derived.Lib.Hide
import Derived.Laws.RangeAny
import Derived.WalkSmall
namespace Go.Proofs.YtmdkocegnbcgmaaGreatDoor
open Go.RowKit
namespace NumD
open NumM

set_option maxHeartbeats 400000 in
theorem digit_any (r : Int) (h0 : -2147483648 ≤ r) (h1 : r ≤ 2147483647) (w : World) :
    Calls Tryz.prog 157 #[.int .i32 r] w fun e w' => e = .returned (.tuple #[.int .i64 (digN r), .bool (digB r)]) ∧ w = w' := by
  go_enter Tryz.func157, Tryz.ntmps157
  go_wp2
  all_goals
    go_ret2
    first
      | exact ⟨ret_ib (dig_way1 (by omega) (by omega)).1 (dig_way1 (by omega) (by omega)).2, rfl⟩
      | exact ⟨ret_ib (dig_way2 (by omega) (by omega)).1 (dig_way2 (by omega) (by omega)).2, rfl⟩
      | exact ⟨ret_ib (dig_way3 (by omega) (by omega)).1 (dig_way3 (by omega) (by omega)).2, rfl⟩
      | exact ⟨ret_ib (dig_way4 (by omega) (by omega) (by omega)).1 (dig_way4 (by omega) (by omega) (by omega)).2, rfl⟩
set_option maxHeartbeats 400000 in
theorem refDigit_any (r : Int) (h0 : 0 ≤ r) (h1 : r ≤ 255) (w : World) :
    Calls Tryz.prog 78 #[.int .u8 r] w fun e w' => e = .returned (.int .i64 (digV r)) ∧ w = w' := by
  go_enter Tryz.func78, Tryz.ntmps78
  go_wp2
  all_goals
    go_ret
    exact ⟨ret_int (by unfold digV; (repeat' split) <;> omega), rfl⟩

set_option maxHeartbeats 400000 in
theorem decimal_any (s : ByteArray) (w : World) (hs : s.size ≤ 9223372036854775807) :
    Calls Tryz.prog 136 #[.string s] w fun e w' => e = .returned (.tuple #[.int .i64 (decV s.data.toList).1, .bool (decV s.data.toList).2]) ∧ Below w.heap.size w w' := by
  go_enter Tryz.func136, Tryz.ntmps136
  go_wp2
  go_loopw [4] (fun nv wr => ∃ (pos : Nat) (n : Int), nv = .int .i64 n ∧ pos ≤ s.size ∧ 0 ≤ n ∧ n ≤ 9223372036854775807 ∧ wr.heap[w.heap.size]? = some (.stringIter s pos) ∧ Below w.heap.size w wr ∧ Hid (decF (s.data.toList.drop pos) n = decF s.data.toList 0)) (fun _ wr => s.size - wr.iterPos w.heap.size)
  case atStart => exact ⟨0, 0, rfl, by omega, by omega, by omega, by have := World.iter_heap w s 0; simpa using this, (Below.refl _ w).alloc (Nat.le_refl _) _, rfl⟩
  case round =>
    obtain ⟨pos, n, rfl, hpos, hn0, hn1, hit, hbw, HD⟩ := hrel
    have hsz : w.heap.size < wr.heap.size := (Array.getElem?_eq_some_iff.1 hit).1
    by_cases hp : pos < s.size
    · have hnx : ∀ ty, (Instr.next (.pointer (some ⟨w.heap.size, 0, none⟩)) true ty).run Tryz.prog wr = _ := fun ty => Lib.run_next_any_at wr w.heap.size s pos ty hit hp
      have hd1 := decode_le s pos
      have hl : pos < s.data.toList.length := hp
      have hdd := decode_dig s pos hp hl
      have g0 := digN_lo ((Utf8.decode s pos).1 : Int)
      have g1 := digN_hi ((Utf8.decode s pos).1 : Int)
      have Hdd := Lib.hid hdd
      clear hdd
      go_wp2_with (go_at_call 157; refine (digit_any _ (by omega) (by omega) _).mono ?_; rintro e w' ⟨rfl, rfl⟩)
      · rename_i hB h9 hbad
        obtain ⟨e1, e2⟩ := digB_yes hB
        have hst := dec_stop hl HD (by rw [← Hdd.out.1, ← e2]; exact hbad)
        go_ret2
        exact ⟨ret_ib (by rw [hst]) (by rw [hst]), Lib.below_iterAt hbw (Nat.le_refl _) s _⟩
      · rename_i hB h9 hgood
        obtain ⟨e1, e2⟩ := digB_yes hB
        rw [Hdd.out.2 e1]
        have hg := dec_go hl HD (by rw [← Hdd.out.1, ← e2]; omega) (by rw [← Hdd.out.1, ← e2]; omega)
        go_roundw
        case rel => exact ⟨pos + 1, _, rfl, by omega, by omega, by omega, Lib.iterAt_heap wr w.heap.size s pos _ hit, Lib.below_iterAt hbw (Nat.le_refl _) s _, by rw [e2, Hdd.out.1]; exact hg⟩
        case measure =>
          rw [iterPos_of hit, iterPos_of (Lib.iterAt_heap wr w.heap.size s pos _ hit)]
          omega
      · rename_i hB h9
        obtain ⟨e1, e2⟩ := digB_yes hB
        have hst := dec_stop hl HD (.inl (by rw [← Hdd.out.1, ← e2]; exact h9))
        go_ret2
        exact ⟨ret_ib (by rw [hst]) (by rw [hst]), Lib.below_iterAt hbw (Nat.le_refl _) s _⟩
      · rename_i hB
        have e1 := digB_no hB
        have hst := dec_stop hl HD (.inl (by rw [← Hdd.out.1]; omega))
        go_ret2
        exact ⟨ret_ib (by rw [hst]) (by rw [hst]), Lib.below_iterAt hbw (Nat.le_refl _) s _⟩
    · have hnx : ∀ ty, (Instr.next (.pointer (some ⟨w.heap.size, 0, none⟩)) true ty).run Tryz.prog wr = _ := fun ty => Lib.run_next_end_at wr w.heap.size s pos ty hit hp
      have he := dec_end (l := s.data.toList) hp HD
      have He := Lib.hid he
      clear he
      go_wp2
      go_ret2
      exact ⟨ret_ib (by rw [He.out]) (by rw [He.out, Lib.toList_data]), hbw⟩

/-- 'n << 4 | d' of a number and a digit. -/
theorem shl_or (n d : Int) (h0 : 0 ≤ d) (h1 : d ≤ 15) : bits .or .i64 (wrap64 (n * 16)) d = wrap64 (n * 16 + d) := by
  have e1 : (BitVec.ofInt 64 (wrap64 (n * 16))).toNat = 2 ^ 4 * ((n % 1152921504606846976).toNat) := by
    rw [BitVec.toNat_ofInt]
    unfold wrap64
    omega
  have e2 : (BitVec.ofInt 64 d).toNat = d.toNat := by
    rw [BitVec.toNat_ofInt]
    omega
  show IntKind.i64.wrap ((BitVec.ofInt 64 (wrap64 (n * 16)) ||| BitVec.ofInt 64 d).toNat : Int) = _
  rw [BitVec.toNat_or, e1, e2, ← Nat.two_pow_add_eq_or_of_lt (by omega), IntKind.wrap_i64]
  unfold wrap64
  omega

set_option maxHeartbeats 400000 in
theorem hexadecimal_any (s : ByteArray) (w : World) (hs : s.size ≤ 9223372036854775807) :
    Calls Tryz.prog 135 #[.string s] w fun e w' => e = .returned (.tuple #[.int .i64 (hexV s.data.toList).1, .bool (hexV s.data.toList).2]) ∧ Below w.heap.size w w' := by
  by_cases hbad : s.data.toList = [] ∨ 16 < s.data.toList.length
  · have hx : hexV s.data.toList = (0, false) := by unfold hexV; rw [if_pos hbad]
    have Hx := Lib.hid hx
    clear hx
    have hs2 : s.size = s.data.toList.length := rfl
    by_cases hn : s.data.toList = []
    · have h1 : s.toList.isEmpty = true := by rw [Lib.toList_data, hn]; rfl
      have h2 : s.size ≤ 16 := by rw [hs2, hn]; simp
      clear hbad hn hs2
      go_enter Tryz.func135, Tryz.ntmps135
      go_wp2
      go_ret2
      exact ⟨ret_ib (by rw [Hx.out]) (by rw [Hx.out]), Below.refl _ _⟩
    · have h1 : s.toList.isEmpty = false := by rw [Lib.toList_data]; simpa using hn
      have h2 : 16 < s.size := by rcases hbad with h | h; exact absurd h hn; exact h
      clear hbad hn hs2
      go_enter Tryz.func135, Tryz.ntmps135
      go_wp2
      go_ret2
      exact ⟨ret_ib (by rw [Hx.out]) (by rw [Hx.out]), Below.refl _ _⟩
  · have hn : s.data.toList ≠ [] := fun h => hbad (.inl h)
    have h16 : s.data.toList.length ≤ 16 := by
      apply Classical.byContradiction
      intro h
      exact hbad (.inr (by omega))
    have h1 : s.toList.isEmpty = false := by rw [Lib.toList_data]; simpa using hn
    have h2 : s.size ≤ 16 := h16
    clear hbad
    have Hn := Lib.hid hn
    clear hn
    go_enter Tryz.func135, Tryz.ntmps135
    go_wp2
    go_loopw [4] (fun nv wr => ∃ (pos : Nat) (n : Int), nv = .int .i64 n ∧ pos ≤ s.size ∧ -9223372036854775808 ≤ n ∧ n ≤ 9223372036854775807 ∧ wr.heap[w.heap.size]? = some (.stringIter s pos) ∧ Below w.heap.size w wr ∧ Hid (hexF (s.data.toList.drop pos) n = hexF s.data.toList 0)) (fun _ wr => s.size - wr.iterPos w.heap.size)
    case atStart => exact ⟨0, 0, rfl, by omega, by omega, by omega, by have := World.iter_heap w s 0; simpa using this, (Below.refl _ w).alloc (Nat.le_refl _) _, rfl⟩
    case round =>
      obtain ⟨pos, n, rfl, hpos, hn0, hn1, hit, hbw, HD⟩ := hrel
      have hsz : w.heap.size < wr.heap.size := (Array.getElem?_eq_some_iff.1 hit).1
      by_cases hp : pos < s.size
      · have hnx : ∀ ty, (Instr.next (.pointer (some ⟨w.heap.size, 0, none⟩)) true ty).run Tryz.prog wr = _ := fun ty => Lib.run_next_any_at wr w.heap.size s pos ty hit hp
        have hd1 := decode_le s pos
        have hl : pos < s.data.toList.length := hp
        have hdd := decode_dig s pos hp hl
        have g0 := digN_lo ((Utf8.decode s pos).1 : Int)
        have g1 := digN_hi ((Utf8.decode s pos).1 : Int)
        have Hdd := Lib.hid hdd
        clear hdd
        go_wp2_with (go_at_call 157; refine (digit_any _ (by omega) (by omega) _).mono ?_; rintro e w' ⟨rfl, rfl⟩)
        · rename_i hB
          have e1 := digB_no (r := ((Utf8.decode s pos).1 : Int)) (by simpa using hB)
          have hst := hex_stop hl h16 HD (by rw [← Hdd.out.1]; omega)
          go_ret2
          exact ⟨ret_ib (by rw [hst]) (by rw [hst]), Lib.below_iterAt hbw (Nat.le_refl _) s _⟩
        · rename_i hB
          obtain ⟨e1, e2⟩ := digB_yes (r := ((Utf8.decode s pos).1 : Int)) (by simpa using hB)
          rw [Hdd.out.2 e1, shl_or _ _ g0 g1]
          have hg := hex_go hl HD (by rw [← Hdd.out.1]; exact e1)
          go_roundw
          case rel => exact ⟨pos + 1, _, rfl, by omega, w64_lo _, w64_hi _, Lib.iterAt_heap wr w.heap.size s pos _ hit, Lib.below_iterAt hbw (Nat.le_refl _) s _, by rw [e2, Hdd.out.1]; exact hg⟩
          case measure =>
            rw [iterPos_of hit, iterPos_of (Lib.iterAt_heap wr w.heap.size s pos _ hit)]
            omega
      · have hnx : ∀ ty, (Instr.next (.pointer (some ⟨w.heap.size, 0, none⟩)) true ty).run Tryz.prog wr = _ := fun ty => Lib.run_next_end_at wr w.heap.size s pos ty hit hp
        have he := hex_end (l := s.data.toList) hp h16 Hn.out HD
        have He := Lib.hid he
        clear he
        go_wp2
        go_ret2
        exact ⟨ret_ib (by rw [He.out]) (by rw [He.out]), hbw⟩

theorem cut_no (s : ByteArray) (w : World) (h : Lib.hasPrefix s.data.toList [48, 120] = false) :
    Calls Tryz.prog 134 #[.string s, .string ⟨#[48, 120]⟩] w fun e w' => e = .returned (.tuple #[.string s, .bool false]) ∧ w = w' := by
  refine (Tryz.strings_CutPrefix s ⟨#[48, 120]⟩ w).mono fun e w' ⟨he, hw⟩ => ⟨?_, hw.symm⟩
  have h1 : Lib.hasPrefix s.data.toList (⟨#[48, 120]⟩ : ByteArray).data.toList = false := h
  have h2 : Lib.trimPrefix s.data.toList (⟨#[48, 120]⟩ : ByteArray).data.toList = s.data.toList := by unfold Lib.trimPrefix; rw [h1]; rfl
  rw [he, h1, h2]
theorem cut_yes (s : ByteArray) (w : World) (h : Lib.hasPrefix s.data.toList [48, 120] = true) :
    Calls Tryz.prog 134 #[.string s, .string ⟨#[48, 120]⟩] w fun e w' => e = .returned (.tuple #[.string ⟨(s.data.toList.drop 2).toArray⟩, .bool true]) ∧ w = w' := by
  refine (Tryz.strings_CutPrefix s ⟨#[48, 120]⟩ w).mono fun e w' ⟨he, hw⟩ => ⟨?_, hw.symm⟩
  have h1 : Lib.hasPrefix s.data.toList (⟨#[48, 120]⟩ : ByteArray).data.toList = true := h
  have h2 : Lib.trimPrefix s.data.toList (⟨#[48, 120]⟩ : ByteArray).data.toList = s.data.toList.drop 2 := by unfold Lib.trimPrefix; rw [h1]; rfl
  rw [he, h1, h2]

set_option maxHeartbeats 400000 in
theorem number_any (s : ByteArray) (w : World) (hs : s.size ≤ 9223372036854775807) :
    Calls Tryz.prog 108 #[.string s] w fun e w' => e = .returned (.tuple #[.int .i64 (numV s.data.toList).1, .bool (numV s.data.toList).2]) ∧ Below w.heap.size w w' := by
  cases hpre : Lib.hasPrefix s.data.toList [48, 120]
  · have hx : numV s.data.toList = decV s.data.toList := by unfold numV; rw [if_neg (by simp [hpre])]
    have Hx := Lib.hid hx
    have c1 := cut_no s w hpre
    clear hx hpre
    have C1 := Lib.hid c1
    clear c1
    go_enter Tryz.func108, Tryz.ntmps108
    go_wp2_with (first | (go_at_call 134; refine (C1.out).mono ?_; rintro e w' ⟨rfl, rfl⟩) | (go_at_call 136; refine (decimal_any _ _ hs).mono ?_; rintro e w' ⟨rfl, hb⟩))
    go_ret2
    exact ⟨ret_ib (by rw [Hx.out]) (by rw [Hx.out]), hb⟩
  · have hx : numV s.data.toList = hexV (s.data.toList.drop 2) := by unfold numV; rw [if_pos hpre]
    have Hx := Lib.hid hx
    have c1 := cut_yes s w hpre
    clear hx hpre
    have C1 := Lib.hid c1
    clear c1
    have hs2 : (⟨(s.data.toList.drop 2).toArray⟩ : ByteArray).size ≤ 9223372036854775807 := by
      have h3 : s.data.toList.length = s.size := rfl
      show (s.data.toList.drop 2).toArray.size ≤ _
      rw [List.size_toArray, List.length_drop]
      omega
    have c2 := hexadecimal_any ⟨(s.data.toList.drop 2).toArray⟩ w hs2
    have C2 := Lib.hid c2
    clear c2 hs2
    go_enter Tryz.func108, Tryz.ntmps108
    go_wp2_with fail
    refine (C1.out).mono ?_
    rintro e w' ⟨rfl, rfl⟩
    go_wp2_with fail
    refine (C2.out).mono ?_
    rintro e w' ⟨rfl, hb⟩
    go_wp2
    go_ret2
    exact ⟨ret_ib (by rw [Hx.out]) (by rw [Hx.out]), hb⟩
end NumD
end Go.Proofs.YtmdkocegnbcgmaaGreatDoor
namespace Go.Proofs.YtmdkocegnbcgmaaGreatDoor
open Go.RowKit
namespace NumD
open NumM

theorem take2 (s : ByteArray) : (s.extract 0 2).toList = s.data.toList.take 2 := by
  rw [Lib.toList_data, ByteArray.data_extract, Array.toList_extract]
  rfl
theorem pre_eq (l : List UInt8) : Lib.hasPrefix l [48, 120] = (l.take 2 == [48, 120]) := by
  unfold Lib.hasPrefix
  match l with
  | [] => rfl
  | [a] => simp [List.isPrefixOf]
  | a :: b :: r =>
    show ((48 == a) && ((120 == b) && true)) = ((a == 48) && ((b == 120) && true))
    rw [Bool.and_true, Bool.and_true, BEq.comm (a := 48), BEq.comm (a := 120)]
theorem pre_yes {s : ByteArray} (h : Lib.hasPrefix s.data.toList [48, 120] = true) : 2 ≤ s.size ∧ ((s.extract 0 2).toList == [48, 120]) = true := by
  rw [pre_eq] at h
  refine ⟨?_, by rw [take2]; exact h⟩
  have h1 : (s.data.toList.take 2).length = 2 := by rw [eq_of_beq h]; rfl
  rw [List.length_take] at h1
  have h2 : s.data.toList.length = s.size := rfl
  omega
theorem pre_no {s : ByteArray} (h : Lib.hasPrefix s.data.toList [48, 120] = false) : ((s.extract 0 2).toList == [48, 120]) = false := by
  rw [pre_eq] at h
  rw [take2]
  exact h
theorem pre_short {s : ByteArray} (h : Lib.hasPrefix s.data.toList [48, 120] = true) (h3 : s.size ≤ 2) : hexV (s.data.toList.drop 2) = decV s.data.toList := by
  have h2 : s.data.toList.length = s.size := rfl
  rw [pre_eq, List.take_of_length_le (by omega)] at h
  rw [eq_of_beq h]
  decide
theorem u64_eq (x : Int) : IntKind.u64.wrap x = x % 18446744073709551616 := by simp [IntKind.wrap, IntKind.bits, IntKind.signed]
theorem u64_step (n d : Int) : wrap64 (IntKind.u64.wrap (IntKind.u64.wrap (16 * n) + d)) = wrap64 (wrap64 n * 16 + d) := by
  rw [u64_eq, u64_eq]
  unfold wrap64
  omega
theorem u64_lo (x : Int) : 0 ≤ IntKind.u64.wrap x := by rw [u64_eq]; omega
theorem u64_hi (x : Int) : IntKind.u64.wrap x ≤ 18446744073709551615 := by rw [u64_eq]; omega
theorem el_drop {s : ByteArray} {k : Nat} (hl : k < (s.data.toList.drop 2).length) (hlt : k + 2 < s.size) : Hid (digV (s[k + 2].toNat : Int) = digV (((s.data.toList.drop 2)[k]).toNat : Int)) := by
  show digV (s[k + 2].toNat : Int) = digV (((s.data.toList.drop 2)[k]).toNat : Int)
  rw [List.getElem_drop]
  simp only [Nat.add_comm 2 k]
  rfl
theorem hexV_long {l : List UInt8} (h : 16 < l.length) : hexV l = (0, false) := by unfold hexV; rw [if_pos (.inr h)]

set_option maxHeartbeats 400000 in
/-- The hexadecimal way. -/
theorem refHex_any (s : ByteArray) (w : World) (hs : s.size ≤ 1000000) (h3 : 3 ≤ s.size) (hpre : ((s.extract 0 2).toList == [48, 120]) = true) :
    Calls Tryz.prog 45 #[.string s] w fun e w' => e = .returned (.tuple #[.int .i64 (hexV (s.data.toList.drop 2)).1, .bool (hexV (s.data.toList.drop 2)).2]) ∧ w = w' := by
  go_enter Tryz.func45, Tryz.ntmps45
  go_wp2
  go_loop [4, 5] (fun nv i => ∃ (k : Nat) (n : Int), i = .int .i64 (k + 2) ∧ nv = .int .u64 n ∧ k + 2 ≤ s.size ∧ k ≤ 16 ∧ 0 ≤ n ∧ n ≤ 18446744073709551615 ∧ Hid (hexF ((s.data.toList.drop 2).drop k) (wrap64 n) = hexF (s.data.toList.drop 2) 0)) (fun _ i => s.size - (intOf i).toNat)
  case atStart => exact ⟨0, 0, rfl, rfl, by omega, by omega, by omega, by omega, show hexF _ (wrap64 0) = _ from by rw [w64_id (by omega) (by omega)]; rfl⟩
  case round =>
    obtain ⟨k, n, rfl, rfl, hk, hk16, hn0, hn1, HD⟩ := hrel
    by_cases hlt : k + 2 < s.size
    · have hl : k < (s.data.toList.drop 2).length := by rw [List.length_drop]; show k < s.size - 2; omega
      have hb0 := digV_lo (s[k + 2].toNat : Int)
      have hb1 := digV_hi (s[k + 2].toNat : Int)
      have hlt2 := UInt8.toNat_lt s[k + 2]
      have he := el_drop hl hlt
      go_wp2_with (go_at_call 78; refine (refDigit_any _ (by omega) (by omega) _).mono ?_; rintro e w' ⟨rfl, rfl⟩)
      · rename_i h15 hbad
        have hst : hexV (s.data.toList.drop 2) = (0, false) := by
          by_cases h16 : 16 < (s.data.toList.drop 2).length
          · exact hexV_long h16
          · have : s.size - 2 = (s.data.toList.drop 2).length := by rw [List.length_drop]; rfl
            omega
        go_ret2
        exact ⟨ret_ib (by rw [hst]) (by rw [hst]), rfl⟩
      · rename_i h15 hgood
        have hg := hex_go hl HD (by rw [← he.out]; exact h15)
        go_round
        case rel => exact ⟨k + 1, _, by go_num, rfl, by omega, by omega, u64_lo _, u64_hi _, show hexF _ _ = _ from by rw [u64_step, he.out]; exact hg⟩
        case measure => simp [intOf]; omega
      · rename_i h15
        have hst : hexV (s.data.toList.drop 2) = (0, false) := by
          by_cases h16 : 16 < (s.data.toList.drop 2).length
          · exact hexV_long h16
          · exact hex_stop hl (by omega) HD (by rw [← he.out]; exact h15)
        go_ret2
        exact ⟨ret_ib (by rw [hst]) (by rw [hst]), rfl⟩
    · have hlen : s.size - 2 = (s.data.toList.drop 2).length := by rw [List.length_drop]; rfl
      have hst := hex_end (l := s.data.toList.drop 2) (pos := k) (n := wrap64 n) (by omega) (by omega) (by intro h; rw [h] at hlen; simp at hlen; omega) HD
      have Hst := Lib.hid hst
      clear hst hlen
      go_wp2
      go_ret2
      exact ⟨ret_ib (by rw [Hst.out]) (by rw [Hst.out]), rfl⟩

set_option maxHeartbeats 400000 in
/-- The decimal way. -/
theorem refDec_any (s : ByteArray) (w : World) (hs : s.size ≤ 1000000) (hpre : 3 ≤ s.size → ((s.extract 0 2).toList == [48, 120]) = false) :
    Calls Tryz.prog 45 #[.string s] w fun e w' => e = .returned (.tuple #[.int .i64 (decV s.data.toList).1, .bool (decV s.data.toList).2]) ∧ w = w' := by
  by_cases h3 : 3 ≤ s.size
  all_goals
    try have h2 := hpre h3
    clear hpre
    go_enter Tryz.func45, Tryz.ntmps45
    go_wp2
    go_loop [7, 8] (fun nv i => ∃ (k : Nat) (n : Int), i = .int .i64 k ∧ nv = .int .i64 n ∧ k ≤ s.size ∧ 0 ≤ n ∧ n ≤ 9223372036854775807 ∧ Hid (decF (s.data.toList.drop k) n = decF s.data.toList 0)) (fun _ i => s.size - (intOf i).toNat)
    case atStart => exact ⟨0, 0, rfl, rfl, by omega, by omega, by omega, rfl⟩
    case round =>
      obtain ⟨k, n, rfl, rfl, hk, hn0, hn1, HD⟩ := hrel
      by_cases hlt : k < s.size
      · have hl : k < s.data.toList.length := hlt
        have hb0 := digV_lo (s[k].toNat : Int)
        have hb1 := digV_hi (s[k].toNat : Int)
        have hlt2 := UInt8.toNat_lt s[k]
        go_wp2_with (go_at_call 78; refine (refDigit_any _ (by omega) (by omega) _).mono ?_; rintro e w' ⟨rfl, rfl⟩)
        · rename_i h9 hbad
          have hst := dec_stop hl HD hbad
          go_ret2
          exact ⟨ret_ib (by rw [hst]) (by rw [hst]), rfl⟩
        · rename_i h9 hgood
          have hg := dec_go hl HD h9 hgood.2
          go_round
          case rel => exact ⟨k + 1, _, by go_num, rfl, by omega, by omega, by omega, show decF _ _ = _ from by rw [Int.mul_comm 10 n]; exact hg⟩
          case measure => simp [intOf]; omega
        · rename_i h9
          have hst := dec_stop hl HD (.inl h9)
          go_ret2
          exact ⟨ret_ib (by rw [hst]) (by rw [hst]), rfl⟩
      · have hst := dec_end (l := s.data.toList) hlt HD
        have Hst := Lib.hid hst
        clear hst
        go_wp2
        go_ret2
        exact ⟨ret_ib (by rw [Hst.out]) (by rw [Hst.out, Lib.toList_data]), rfl⟩

theorem refNumber_any (s : ByteArray) (w : World) (hs : s.size ≤ 1000000) :
    Calls Tryz.prog 45 #[.string s] w fun e w' => e = .returned (.tuple #[.int .i64 (numV s.data.toList).1, .bool (numV s.data.toList).2]) ∧ w = w' := by
  cases hpre : Lib.hasPrefix s.data.toList [48, 120]
  · have hx : numV s.data.toList = decV s.data.toList := by unfold numV; rw [if_neg (by simp [hpre])]
    rw [hx]
    exact refDec_any s w hs fun _ => pre_no hpre
  · have hx : numV s.data.toList = hexV (s.data.toList.drop 2) := by unfold numV; rw [if_pos hpre]
    have h2 := pre_yes hpre
    by_cases h3 : 3 ≤ s.size
    · rw [hx]
      exact refHex_any s w hs h3 h2.2
    · have : numV s.data.toList = decV s.data.toList := by
        rw [hx]
        exact pre_short hpre (by omega)
      rw [this]
      exact refDec_any s w hs fun h => absurd h h3
end NumD
end Go.Proofs.YtmdkocegnbcgmaaGreatDoor
