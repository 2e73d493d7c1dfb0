/- The program's Quote. -/
import Derived.Test.YthlclmjcdpffbaaDoorTraceQ
namespace Go.Proofs.YthlclmjcdpffbaaDoor
open Go.RowKit ObjM
namespace TraceD
open LabelM LabelD

def hexD : List UInt8 := [48, 49, 50, 51, 52, 53, 54, 55, 56, 57, 97, 98, 99, 100, 101, 102]
/-- A byte, quoted. -/
def escB (c : UInt8) : List UInt8 :=
  if c = 10 then [92, 110] else if c = 92 ∨ c = 34 then [92, c] else if c < 32 ∨ 126 < c then [92, 120, hexD.getD (c.toNat / 16) 0, hexD.getD (c.toNat % 16) 0] else [c]
def quoteB (l : List UInt8) : List UInt8 := 34 :: (l.flatMap escB ++ [34])
theorem escB_len (c : UInt8) : (escB c).length ≤ 4 := by
  unfold escB
  split
  · simp
  · split
    · simp
    · split <;> simp
theorem flat_len (l : List UInt8) : (l.flatMap escB).length ≤ 4 * l.length := by
  induction l with
  | nil => simp
  | cons a r ih =>
    have := escB_len a
    simp only [List.flatMap_cons, List.length_append, List.length_cons]
    omega

theorem byteCells_app (a b : List UInt8) : Lib.byteCells (a ++ b) = Lib.byteCells a ++ Lib.byteCells b := by simp [Lib.byteCells]
/-- What the Builder holds ahead of byte k. -/
def qCells (l : List UInt8) (k : Nat) : List Value := Lib.byteCells (34 :: (l.take k).flatMap escB)
theorem qCells_next (l : List UInt8) {k : Nat} (h : k < l.length) : qCells l (k + 1) = qCells l k ++ Lib.byteCells (escB l[k]) := by
  unfold qCells
  rw [List.take_succ_eq_append_getElem h, List.flatMap_append, ← byteCells_app]
  simp
theorem qCells_len (l : List UInt8) (k : Nat) : (qCells l k).length ≤ 1 + 4 * l.length := by
  unfold qCells
  have h1 := flat_len (l.take k)
  have h2 : (l.take k).length ≤ l.length := by simp; omega
  simp only [Lib.byteCells, List.length_map, List.length_cons]
  omega
theorem u8_of {u : UInt8} {n : Nat} (h : u.toNat = n) : u = UInt8.ofNat n := by
  apply UInt8.toNat_inj.1
  rw [h, UInt8.toNat_ofNat']
  have := u.toNat_lt
  omega

theorem hex_at : ∀ m : Fin 16, ((⟨#[48, 49, 50, 51, 52, 53, 54, 55, 56, 57, 97, 98, 99, 100, 101, 102]⟩ : ByteArray)[m.val]'m.isLt).toNat = (hexD.getD m.val 0).toNat := by decide +kernel
theorem byteCells_nat (l : List UInt8) : Lib.byteCells l = (l.map UInt8.toNat).map fun (m : Nat) => Value.int .u8 (m : Int) := by simp [Lib.byteCells]
theorem esc_plain : ∀ n : Fin 256, n.val ≠ 10 → n.val ≠ 92 → n.val ≠ 34 → 32 ≤ n.val → n.val ≤ 126 → (escB (UInt8.ofNat n.val)).map UInt8.toNat = [n.val] := by decide +kernel
theorem esc_hex : ∀ n : Fin 256, n.val ≠ 10 → n.val ≠ 92 → n.val ≠ 34 → (n.val < 32 ∨ 126 < n.val) → (escB (UInt8.ofNat n.val)).map UInt8.toNat = [92, 120, (hexD.getD (n.val / 16) 0).toNat, (hexD.getD (n.val % 16) 0).toNat] := by decide +kernel

set_option maxRecDepth 100000 in
set_option maxHeartbeats 4000000 in
theorem quote_any (s : ByteArray) (hs : s.size ≤ 1000000) (w : World) :
    Calls Tryd.prog 15 #[.string s] w fun e w' => e = .returned (.string ⟨(quoteB s.data.toList).toArray⟩) ∧ Below w.heap.size w w' := by
  have HWB := fun (bs : List Value) (c : Int) (W : World) h hl hB => Lib.hid (writeByte_any w.heap.size w.heap.size bs c W h hl hB)
  have HWS := fun (bs : List Value) (t : ByteArray) (W : World) h hl hB => Lib.hid (writeString_any w.heap.size w.heap.size bs t W h hl hB)
  have hI0 : Lib.IsBuilder 51 5 w.heap.size w.heap.size [] (w.alloc (.cells #[.pointer none, .slice none 0 0] 51)) :=
    .inl ⟨Nat.le_refl _, .slice none 0 0, Has.new w 51 [.pointer none, .slice none 0 0], World.ownsRow_nil _ _ _ _, by simp [Value.ownBlock]⟩
  have H1 := HWB [] 34 _ hI0 (by simp) (by simp)
  clear hI0
  go_enter Tryd.func15, Tryd.ntmps15
  go_wp2_with fail
  refine (H1.out).mono ?_
  rintro e w1 ⟨rfl, hb1, hB1⟩
  have B1 := Lib.hid (((Below.refl _ w).alloc (Nat.le_refl _) _).trans hB1)
  have I1 := Lib.hid hb1
  clear hb1 hB1
  go_wp2
  go_loopw [9] (fun i wr => ∃ k : Nat, i = .int .i64 k ∧ k ≤ s.size ∧ Below w.heap.size w wr ∧ Hid (Lib.BuilderAt 51 5 w.heap.size w.heap.size (.pointer (some ⟨w.heap.size, 0, none⟩)) (qCells s.data.toList k) wr)) (fun i _ => s.size - (intOf i).toNat)
  case atStart => exact ⟨0, rfl, by omega, B1.out, I1⟩
  case round =>
    obtain ⟨k, rfl, hk, hB, HI⟩ := hrel
    have HB := Lib.hid hB
    have hsz := hB.size
    have hql := qCells_len s.data.toList k
    have hdl : s.data.toList.length = s.size := Array.length_toList
    rw [hdl] at hql
    clear hB
    by_cases hlt : k < s.size
    · have hi1 : (k : Int) < (s.size : Int) := by omega
      have HNx := Lib.hid (qCells_next s.data.toList (k := k) (by omega))
      obtain ⟨n, hn⟩ : ∃ n, (s[k]'hlt).toNat = n := ⟨_, rfl⟩
      have hU : s.data.toList[k]'(by omega) = UInt8.ofNat n := u8_of (by rw [← hn]; simp [ByteArray.getElem_eq_getElem_data])
      rw [hU] at HNx
      have hn256 : n < 256 := by rw [← hn]; exact UInt8.toNat_lt _
      obtain ⟨Q, hQ⟩ : ∃ Q, qCells s.data.toList k = Q := ⟨_, rfl⟩
      obtain ⟨Q2, hQ2⟩ : ∃ Q, qCells s.data.toList (k + 1) = Q := ⟨_, rfl⟩
      rw [hQ] at HI HNx hql
      rw [hQ2] at HNx
      have HQ2 := Lib.hid hQ2
      clear hQ hQ2 hU hdl
      have hIB : Lib.IsBuilder 51 5 w.heap.size w.heap.size Q wr := .inr HI.out
      by_cases h10 : n = 10
      · subst h10
        have H := HWS Q ⟨#[92, 110]⟩ wr hIB (by show Q.length + 2 ≤ _; omega) hsz
        clear HWS HWB hIB
        go_wp2_with fail
        refine (H.out).mono ?_
        rintro e w2 ⟨rfl, hb2, hB2⟩
        have I2 : Hid (Lib.BuilderAt 51 5 w.heap.size w.heap.size (.pointer (some ⟨w.heap.size, 0, none⟩)) (qCells s.data.toList (k + 1)) w2) := Lib.hid (by rw [HQ2.out, HNx.out]; exact hb2)
        have B2 := Lib.hid (HB.out.trans hB2)
        clear hb2 hB2
        go_wp2
        go_roundw
        case rel => exact ⟨k + 1, by go_num, by omega, B2.out, I2⟩
        case measure => simp [intOf]; omega
      · have h10b : ((n : Int) == 10) = false := beq_eq_false_iff_ne.2 (by omega)
        by_cases h92 : n = 92 ∨ n = 34
        · have hE : Lib.byteCells (escB (UInt8.ofNat n)) = [.int .u8 92, .int .u8 (n : Int)] := by
            rcases h92 with rfl | rfl <;> (rw [byteCells_nat]; rfl)
          rw [hE] at HNx
          have H := HWB Q 92 wr hIB (by omega) hsz
          have H2 := fun (W : World) h hB => HWB (Q ++ [.int .u8 92]) (n : Int) W h (by simp; omega) hB
          clear HWS HWB hIB hE
          have h92b : (((n : Int) == 92) = true) ∨ (((n : Int) == 92) = false ∧ ((n : Int) == 34) = true) := by rcases h92 with rfl | rfl <;> simp
          clear h92
          rcases h92b with h92b | ⟨h92b, h34b⟩
          all_goals
            go_wp2_with fail
            refine (H.out).mono ?_
            rintro e w2 ⟨rfl, hb2, hB2⟩
            have H3 := H2 w2 (.inr hb2) (Nat.le_trans hsz hB2.size)
            have B2 := Lib.hid (HB.out.trans hB2)
            clear hb2 hB2
            go_wp2_with fail
            refine (H3.out).mono ?_
            rintro e w3 ⟨rfl, hb3, hB3⟩
            have I3 : Hid (Lib.BuilderAt 51 5 w.heap.size w.heap.size (.pointer (some ⟨w.heap.size, 0, none⟩)) (qCells s.data.toList (k + 1)) w3) := Lib.hid (by rw [HQ2.out, HNx.out]; simpa using hb3)
            have B3 := Lib.hid (B2.out.trans hB3)
            clear hb3 hB3
            go_wp2
            go_roundw
            case rel => exact ⟨k + 1, by go_num, by omega, B3.out, I3⟩
            case measure => simp [intOf]; omega
        · have h92b : ((n : Int) == 92) = false := beq_eq_false_iff_ne.2 (by omega)
          have h34b : ((n : Int) == 34) = false := beq_eq_false_iff_ne.2 (by omega)
          by_cases hr : n < 32 ∨ 126 < n
          · have hE : Lib.byteCells (escB (UInt8.ofNat n)) = [.int .u8 92, .int .u8 120, .int .u8 ((hexD.getD (n / 16) 0).toNat : Int), .int .u8 ((hexD.getD (n % 16) 0).toNat : Int)] := by
              rw [byteCells_nat, esc_hex ⟨n, hn256⟩ h10 (show n ≠ 92 by omega) (show n ≠ 34 by omega) hr]
              rfl
            rw [hE] at HNx
            have H := HWS Q ⟨#[92, 120]⟩ wr hIB (by show Q.length + 2 ≤ _; omega) hsz
            clear HWS hIB hE
            have hrb : ((n : Int) < 32) ∨ (¬ ((n : Int) < 32) ∧ (126 : Int) < (n : Int)) := by omega
            rcases hrb with hr1 | ⟨hr1, hr2⟩
            all_goals
              go_wp2_with fail
              refine (H.out).mono ?_
              rintro e w2 ⟨rfl, hb2, hB2⟩
              have B2 := Lib.hid (HB.out.trans hB2)
              have hs2 := Nat.le_trans hsz hB2.size
              have hIB2 : Lib.IsBuilder 51 5 w.heap.size w.heap.size (Q ++ [.int .u8 92, .int .u8 120]) w2 := .inr hb2
              clear hb2 hB2
              go_wp2_with fail
              refine ((HWB _ _ w2 hIB2 (by simp; omega) hs2).out).mono ?_
              rintro e w3 ⟨rfl, hb3, hB3⟩
              have B3 := Lib.hid (B2.out.trans hB3)
              have hs3 := Nat.le_trans hs2 hB3.size
              rw [hex_at ⟨n / 16, by omega⟩] at hb3
              have hIB3 : Lib.IsBuilder 51 5 w.heap.size w.heap.size (Q ++ [.int .u8 92, .int .u8 120] ++ [.int .u8 ((hexD.getD (n / 16) 0).toNat : Int)]) w3 := .inr hb3
              clear hb3 hB3
              go_wp2_with fail
              refine ((HWB _ _ w3 hIB3 (by simp; omega) hs3).out).mono ?_
              rintro e w4 ⟨rfl, hb4, hB4⟩
              rw [hex_at ⟨n % 16, by omega⟩] at hb4
              have I4 : Hid (Lib.BuilderAt 51 5 w.heap.size w.heap.size (.pointer (some ⟨w.heap.size, 0, none⟩)) (qCells s.data.toList (k + 1)) w4) := Lib.hid (by rw [HQ2.out, HNx.out]; simpa using hb4)
              have B4 := Lib.hid (B3.out.trans hB4)
              clear hb4 hB4 hIB2 hIB3 HWB
              go_wp2
              go_roundw
              case rel => exact ⟨k + 1, by go_num, by omega, B4.out, I4⟩
              case measure => simp [intOf]; omega
          · have hE : Lib.byteCells (escB (UInt8.ofNat n)) = [.int .u8 (n : Int)] := by
              rw [byteCells_nat, esc_plain ⟨n, hn256⟩ h10 (show n ≠ 92 by omega) (show n ≠ 34 by omega) (show 32 ≤ n by omega) (show n ≤ 126 by omega)]
              rfl
            rw [hE] at HNx
            have H := HWB Q (n : Int) wr hIB (by omega) hsz
            clear HWS HWB hIB hE
            have hr1 : ¬ (n : Int) < 32 := by omega
            have hr2 : ¬ (126 : Int) < (n : Int) := by omega
            go_wp2_with fail
            refine (H.out).mono ?_
            rintro e w2 ⟨rfl, hb2, hB2⟩
            have I2 : Hid (Lib.BuilderAt 51 5 w.heap.size w.heap.size (.pointer (some ⟨w.heap.size, 0, none⟩)) (qCells s.data.toList (k + 1)) w2) := Lib.hid (by rw [HQ2.out, HNx.out]; exact hb2)
            have B2 := Lib.hid (HB.out.trans hB2)
            clear hb2 hB2
            go_wp2
            go_roundw
            case rel => exact ⟨k + 1, by go_num, by omega, B2.out, I2⟩
            case measure => simp [intOf]; omega
    · obtain rfl : k = s.size := by omega
      have hlt2 : ¬ (s.size : Int) < (s.size : Int) := by omega
      have H := HWB _ 34 wr (.inr HI.out) (by omega) hsz
      have hfin : qCells s.data.toList s.size ++ [.int .u8 34] = Lib.byteCells (quoteB s.data.toList) := by
        unfold qCells quoteB
        rw [← hdl, List.take_length]
        simp [Lib.byteCells]
      rw [hfin] at H
      have HS := fun (W : World) h => Lib.hid (Tryd.Builder_String w.heap.size w.heap.size (quoteB s.data.toList) W h (by simp [quoteB]))
      clear HWB HWS hdl hfin
      go_wp2_with fail
      refine (H.out).mono ?_
      rintro e w2 ⟨rfl, hb2, hB2⟩
      have H3 := HS w2 (.inr hb2)
      have B2 := Lib.hid (HB.out.trans hB2)
      clear hb2 hB2 HS
      go_wp2_with fail
      refine (H3.out).mono ?_
      rintro e w3 ⟨rfl, hB3⟩
      go_wp2
      go_ret
      exact ⟨rfl, B2.out.trans hB3⟩
end TraceD
end Go.Proofs.YthlclmjcdpffbaaDoor
