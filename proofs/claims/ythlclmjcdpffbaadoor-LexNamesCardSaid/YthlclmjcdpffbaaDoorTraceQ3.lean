/- The document's Quote. -/
import Derived.Test.YthlclmjcdpffbaaDoorTraceQ2
import Derived.Deep.QuietTactic
namespace Go.Proofs.YthlclmjcdpffbaaDoor
open Go.RowKit ObjM
namespace TraceD
open LabelM LabelD

theorem esc_plain2 : ∀ n : Fin 256, n.val ≠ 10 → n.val ≠ 92 → n.val ≠ 34 → 32 ≤ n.val → n.val ≤ 126 → escB (UInt8.ofNat n.val) = [UInt8.ofNat n.val] := by decide +kernel
theorem esc_hex2 : ∀ n : Fin 256, n.val ≠ 10 → n.val ≠ 92 → n.val ≠ 34 → (n.val < 32 ∨ 126 < n.val) → escB (UInt8.ofNat n.val) = [92, 120, hexD.getD (n.val / 16) 0, hexD.getD (n.val % 16) 0] := by decide +kernel
def hexA : ByteArray := ⟨#[48, 49, 50, 51, 52, 53, 54, 55, 56, 57, 97, 98, 99, 100, 101, 102]⟩
theorem hex_cut : ∀ m : Fin 16, (hexA.extract m.val (m.val + 1)).data.toList = [hexD.getD m.val 0] := by decide +kernel
theorem hex_size : ∀ m : Fin 16, (hexA.extract m.val (m.val + 1)).size = 1 := by decide +kernel
/-- What is written ahead of byte k. -/
def qL (l : List UInt8) (k : Nat) : List UInt8 := 34 :: (l.take k).flatMap escB
theorem qL_next (l : List UInt8) {k : Nat} (h : k < l.length) : qL l (k + 1) = qL l k ++ escB l[k] := by
  unfold qL
  rw [List.take_succ_eq_append_getElem h, List.flatMap_append]
  simp
theorem qL_len (l : List UInt8) (k : Nat) : (qL l k).length ≤ 1 + 4 * l.length := by
  unfold qL
  have h1 := flat_len (l.take k)
  have h2 : (l.take k).length ≤ l.length := by simp; omega
  simp only [List.length_cons]
  omega
theorem bytes_eq {a b : ByteArray} (h : a.data.toList = b.data.toList) : a = b := by
  cases a
  cases b
  congr 1
  exact Array.ext' (by simpa using h)
theorem app_list (a b : ByteArray) : (a ++ b).data.toList = a.data.toList ++ b.data.toList := by simp

set_option maxRecDepth 100000 in
set_option maxHeartbeats 4000000 in
theorem refQuote_any (s : ByteArray) (hs : s.size ≤ 1000000) (w : World) :
    Calls Tryd.prog 16 #[.string s] w fun e w' => e = .returned (.string ⟨(quoteB s.data.toList).toArray⟩) ∧ Below w.heap.size w w' := by
  go_enter Tryd.func16, Tryd.ntmps16
  go_wp2
  go_loopw [3, 4] (fun o i wr => ∃ (k : Nat) (O : ByteArray), i = .int .i64 k ∧ o = .string O ∧ k ≤ s.size ∧ O.size ≤ 4000001 ∧ Below w.heap.size w wr ∧ Hid (O.data.toList = qL s.data.toList k)) (fun _ i _ => s.size - (intOf i).toNat)
  case atStart => exact ⟨0, ⟨#[34]⟩, rfl, rfl, by omega, by decide, Below.refl _ _, Lib.hid rfl⟩
  case round =>
    obtain ⟨k, O, rfl, rfl, hk, hOs, hB, HO⟩ := hrel
    have HB := Lib.hid hB
    have hdl : s.data.toList.length = s.size := Array.length_toList
    clear hB
    by_cases hlt : k < s.size
    · have hi1 : (k : Int) < (s.size : Int) := by omega
      have HNx := Lib.hid (qL_next s.data.toList (k := k) (by omega))
      have hnl := qL_len s.data.toList (k + 1)
      rw [hdl] at hnl
      obtain ⟨n, hn⟩ : ∃ n, (s[k]'hlt).toNat = n := ⟨_, rfl⟩
      have hU : s.data.toList[k]'(by omega) = UInt8.ofNat n := u8_of (by rw [← hn]; simp [ByteArray.getElem_eq_getElem_data])
      rw [hU] at HNx
      have hn256 : n < 256 := by rw [← hn]; exact UInt8.toNat_lt _
      have hX : (s.extract k (k + 1)).data.toList = [UInt8.ofNat n] := by
        rw [← hU, ByteArray.data_extract, Array.toList_extract, List.extract_eq_take_drop, List.drop_eq_getElem_cons (by omega)]
        simp
      have hXs : (s.extract k (k + 1)).size = 1 := by
        have h2 : (s.extract k (k + 1)).data.toList.length = (s.extract k (k + 1)).size := Array.length_toList
        rw [hX] at h2
        exact h2.symm
      have HX := Lib.hid hX
      clear hX hU hdl
      have hNs : ∀ O' : ByteArray, O'.data.toList = qL s.data.toList (k + 1) → O'.size ≤ 4000001 := fun O' h => by
        have h2 : O'.data.toList.length = O'.size := Array.length_toList
        rw [h] at h2
        omega
      by_cases h10 : n = 10
      · subst h10
        have HN : Hid ((O ++ ⟨#[92, 110]⟩).data.toList = qL s.data.toList (k + 1)) := Lib.hid (by rw [app_list, HO.out, HNx.out]; rfl)
        have hNs2 := hNs _ HN.out
        clear hNs
        go_wp2
        go_roundw
        case rel => exact ⟨k + 1, _, by go_num, rfl, by omega, hNs2, HB.out, HN⟩
        case measure => simp [intOf]; omega
      · have h10b : ((n : Int) == 10) = false := beq_eq_false_iff_ne.2 (by omega)
        by_cases h92 : n = 92 ∨ n = 34
        · have hE : escB (UInt8.ofNat n) = [92, UInt8.ofNat n] := by rcases h92 with rfl | rfl <;> rfl
          have HN : Hid ((O ++ (⟨#[92]⟩ ++ s.extract k (k + 1))).data.toList = qL s.data.toList (k + 1)) := Lib.hid (by rw [app_list, app_list, HX.out, HO.out, HNx.out, hE]; rfl)
          have hNs2 := hNs _ HN.out
          have h92b : (((n : Int) == 92) = true) ∨ (((n : Int) == 92) = false ∧ ((n : Int) == 34) = true) := by rcases h92 with rfl | rfl <;> simp
          clear hNs h92 hE
          rcases h92b with h92b | ⟨h92b, h34b⟩
          all_goals
            go_wp2
            go_roundw
            case rel => exact ⟨k + 1, _, by go_num, rfl, by omega, hNs2, HB.out, HN⟩
            case measure => simp [intOf]; omega
        · have h92b : ((n : Int) == 92) = false := beq_eq_false_iff_ne.2 (by omega)
          have h34b : ((n : Int) == 34) = false := beq_eq_false_iff_ne.2 (by omega)
          by_cases hr : n < 32 ∨ 126 < n
          · have hrb : ((n : Int) < 32) ∨ (¬ ((n : Int) < 32) ∧ (126 : Int) < (n : Int)) := by omega
            rcases hrb with hr1 | ⟨hr1, hr2⟩
            all_goals
              obtain ⟨p, hp⟩ : ∃ p : Nat, n / 16 = p := ⟨_, rfl⟩
              obtain ⟨r, hr3⟩ : ∃ p : Nat, n % 16 = p := ⟨_, rfl⟩
              have hp16 : p < 16 := by omega
              have hr16 : r < 16 := by omega
              have w1 : IntKind.u8.wrap ((n : Int) / 16) = (p : Int) := by rw [IntKind.wrap_u8]; omega
              have w2 : IntKind.u8.wrap ((p : Int) + 1) = (p : Int) + 1 := by rw [IntKind.wrap_u8]; omega
              have w3 : (n : Int).tmod 16 = (r : Int) := by rw [Int.tmod_eq_emod_of_nonneg (by omega)]; omega
              have w4 : IntKind.u8.wrap ((r : Int) + 1) = (r : Int) + 1 := by rw [IntKind.wrap_u8]; omega
              have d3 : (p : Int) + 1 ≤ 16 := by omega
              have e3 : (r : Int) + 1 ≤ 16 := by omega
              have d4 : (p : Int) ≤ (p : Int) + 1 := by omega
              have e4 : (r : Int) ≤ (r : Int) + 1 := by omega
              have d5 : ¬ (16 : Int) < (p : Int) + 1 := by omega
              have e5 : ¬ (16 : Int) < (r : Int) + 1 := by omega
              have d6 : (0 : Int) ≤ (p : Int) := by omega
              have d8 : (0 : Int) ≤ (p : Int) + 1 := by omega
              have f8 : ¬ 9223372036854775807 < O.size + 4 := by omega
              have z1 : ((⟨#[48, 49, 50, 51, 52, 53, 54, 55, 56, 57, 97, 98, 99, 100, 101, 102]⟩ : ByteArray).extract p (p + 1)).size = 1 := hex_size ⟨p, hp16⟩
              have z2 : ((⟨#[48, 49, 50, 51, 52, 53, 54, 55, 56, 57, 97, 98, 99, 100, 101, 102]⟩ : ByteArray).extract r (r + 1)).size = 1 := hex_size ⟨r, hr16⟩
              have e8 : (0 : Int) ≤ (r : Int) + 1 := by omega
              have e6 : (0 : Int) ≤ (r : Int) := by omega
              have hE : escB (UInt8.ofNat n) = [92, 120, hexD.getD p 0, hexD.getD r 0] := by
                rw [← hp, ← hr3]
                exact esc_hex2 ⟨n, hn256⟩ h10 (show n ≠ 92 by omega) (show n ≠ 34 by omega) hr
              have hx1 : ((⟨#[48, 49, 50, 51, 52, 53, 54, 55, 56, 57, 97, 98, 99, 100, 101, 102]⟩ : ByteArray).extract p (p + 1)).data.toList = [hexD.getD p 0] := hex_cut ⟨p, hp16⟩
              have hx2 : ((⟨#[48, 49, 50, 51, 52, 53, 54, 55, 56, 57, 97, 98, 99, 100, 101, 102]⟩ : ByteArray).extract r (r + 1)).data.toList = [hexD.getD r 0] := hex_cut ⟨r, hr16⟩
              have HN : Hid ((O ++ (⟨#[92, 120]⟩ ++ (⟨#[48, 49, 50, 51, 52, 53, 54, 55, 56, 57, 97, 98, 99, 100, 101, 102]⟩ : ByteArray).extract p (p + 1) ++ (⟨#[48, 49, 50, 51, 52, 53, 54, 55, 56, 57, 97, 98, 99, 100, 101, 102]⟩ : ByteArray).extract r (r + 1))).data.toList = qL s.data.toList (k + 1)) := Lib.hid (by rw [app_list, app_list, app_list, hx1, hx2, HO.out, HNx.out, hE]; rfl)
              have hNs2 := hNs _ HN.out
              clear hNs hE hx1 hx2 hr hp hr3
              go_wp2
              go_quiet (fail)
              go_wp2
              go_roundw
              case rel => exact ⟨k + 1, _, by go_num, rfl, by omega, hNs2, below_drewN HB.out _, HN⟩
              case measure => simp [intOf]; omega
          · have hE : escB (UInt8.ofNat n) = [UInt8.ofNat n] := by
              exact esc_plain2 ⟨n, hn256⟩ h10 (show n ≠ 92 by omega) (show n ≠ 34 by omega) (show 32 ≤ n by omega) (show n ≤ 126 by omega)
            have HN : Hid ((O ++ s.extract k (k + 1)).data.toList = qL s.data.toList (k + 1)) := Lib.hid (by rw [app_list, HX.out, HO.out, HNx.out, hE])
            have hNs2 := hNs _ HN.out
            have hr1 : ¬ (n : Int) < 32 := by omega
            have hr2 : ¬ (126 : Int) < (n : Int) := by omega
            clear hNs hE
            go_wp2
            go_roundw
            case rel => exact ⟨k + 1, _, by go_num, rfl, by omega, hNs2, HB.out, HN⟩
            case measure => simp [intOf]; omega
    · obtain rfl : k = s.size := by omega
      have hlt2 : ¬ (s.size : Int) < (s.size : Int) := by omega
      have HR : Hid (O ++ ⟨#[34]⟩ = (⟨(quoteB s.data.toList).toArray⟩ : ByteArray)) := Lib.hid (bytes_eq (by
        rw [app_list, HO.out]
        unfold qL quoteB
        rw [← hdl, List.take_length]
        simp))
      clear hdl
      go_wp2
      go_ret
      exact ⟨by rw [← HR.out]; rfl, HB.out⟩
end TraceD
end Go.Proofs.YthlclmjcdpffbaaDoor
