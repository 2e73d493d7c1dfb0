/- The contracts of Encode and Decode, and of the document's own. -/
import Derived.Test.YtmebhdffgpnplaaDoorInstrRef
namespace Go.Proofs.YtmebhdffgpnplaaDoor
open Go.RowKit
namespace InstrD
open InstrM

def hasL (l : List UInt8) (c : Int) : Bool := l.any fun x => (x.toNat : Int) == c
theorem hasL_step {l : List UInt8} {k : Nat} {c : Int} (h : k < l.length) : hasL (l.drop k) c = (((l[k].toNat : Int) == c) || hasL (l.drop (k + 1)) c) := by
  rw [drop_cons h]
  rfl
set_option maxHeartbeats 400000 in
/-- Whether a form has a field. -/
theorem has_any (s : ByteArray) (c : Int) (w : World) (hs : s.size ≤ 4) :
    Calls Tryd.prog 55 #[.string s, .int .u8 c] w fun e w' => e = .returned (.bool (hasL s.data.toList c)) ∧ w = w' := by
  go_enter Tryd.func55, Tryd.ntmps55
  go_wp2
  go_loop [5] (fun i => ∃ k : Nat, i = .int .i64 k ∧ k ≤ s.size ∧ Hid (hasL (s.data.toList.drop k) c = hasL s.data.toList c)) (fun i => s.size - (intOf i).toNat)
  case atStart => exact ⟨0, rfl, by omega, rfl⟩
  case round =>
    obtain ⟨k, rfl, hk, HD⟩ := hrel
    by_cases hlt : k < s.size
    · have hl : k < s.data.toList.length := hlt
      have hst := HD.out
      rw [hasL_step hl] at hst
      have e : ((s.data.toList[k]).toNat : Int) = s[k].toNat := rfl
      rw [e] at hst
      have Hst := Lib.hid hst
      clear hst e
      cases hq : ((s[k].toNat : Int) == c)
      · have hne := Hst.out
        rw [hq, Bool.false_or] at hne
        have Hne := Lib.hid hne
        clear hne
        go_wp2
        go_round
        case rel => exact ⟨k + 1, by go_num, by omega, Hne⟩
        case measure => simp [intOf]; omega
      · have hne := Hst.out
        rw [hq, Bool.true_or] at hne
        have Hne := Lib.hid hne
        clear hne
        go_wp2
        go_ret
        exact ⟨ret_bool Hne.out, rfl⟩
    · have hne := HD.out
      rw [List.drop_eq_nil_of_le (show s.size ≤ k by omega)] at hne
      have Hne := Lib.hid hne
      clear hne
      go_wp2
      go_ret
      exact ⟨ret_bool Hne.out, rfl⟩

theorem form_len (op : Int) : (formOf op).length ≤ 3 := by
  rcases form_cases op with h | ⟨h | h | h | h | h, _⟩ <;> rw [h] <;> decide

def okF (L : List UInt8) (n l : Int) : Prop := 0 ≤ n ∧ n ≤ 255 ∧ (n = 0 ∨ hasL L l = true)
def okD (L : List UInt8) (n : Int) : Prop := -32768 ≤ n ∧ n ≤ 32767 ∧ (n = 0 ∨ hasL L 68 = true)
theorem hasL_iff (L : List UInt8) (x : UInt8) : hasL L (x.toNat : Int) = true ↔ x ∈ L := by
  unfold hasL
  rw [List.any_eq_true]
  constructor
  · rintro ⟨y, hy, e⟩
    have : y.toNat = x.toNat := by have := eq_of_beq e; omega
    rwa [UInt8.toNat_inj.1 this] at hy
  · exact fun h => ⟨x, h, by simp⟩
theorem valid_iff {op a b c d : Int} {L : List UInt8} (hL : formOf op = L) (hne : L.isEmpty = false) : validB (formOf op) a b c d = true ↔ okF L a 65 ∧ okF L b 66 ∧ okF L c 67 ∧ okD L d := by
  have hn : L ≠ [] := by rintro rfl; cases hne
  have i1 : hasL L 65 = true ↔ 65 ∈ L := hasL_iff L 65
  have i2 : hasL L 66 = true ↔ 66 ∈ L := hasL_iff L 66
  have i3 : hasL L 67 = true ↔ 67 ∈ L := hasL_iff L 67
  have i4 : hasL L 68 = true ↔ 68 ∈ L := hasL_iff L 68
  rw [hL]
  unfold validB okF okD
  rw [i1, i2, i3, i4]
  simp only [Bool.and_eq_true, decide_eq_true_eq]
  constructor
  · rintro ⟨⟨⟨⟨_, h1, h2⟩, h3, h4⟩, h5, h6⟩, h7, h8⟩
    exact ⟨⟨h1.1, h1.2, h2⟩, ⟨h3.1, h3.2, h4⟩, ⟨h5.1, h5.2, h6⟩, h7.1, h7.2, h8⟩
  · rintro ⟨⟨h1, h2, h3⟩, ⟨h4, h5, h6⟩, ⟨h7, h8, h9⟩, h10, h11, h12⟩
    exact ⟨⟨⟨⟨hn, ⟨h1, h2⟩, h3⟩, ⟨h4, h5⟩, h6⟩, ⟨h7, h8⟩, h9⟩, ⟨h10, h11⟩, h12⟩
theorem word_no {op a b c d : Int} {L : List UInt8} {E : Int × Int} (hE : wordV op a b c d = E) (hL : formOf op = L) (hne : L.isEmpty = false) (h : ¬(okF L a 65 ∧ okF L b 66 ∧ okF L c 67 ∧ okD L d)) : E = (0, 1) := by
  rw [← hE, wordV, if_neg (fun hv => h ((valid_iff hL hne).1 hv))]
theorem word_yes {op a b c d : Int} {L : List UInt8} {E : Int × Int} (hE : wordV op a b c d = E) (hL : formOf op = L) (hne : L.isEmpty = false) (h : okF L a 65 ∧ okF L b 66 ∧ okF L c 67 ∧ okD L d) : E = (sumW op a b c d, 0) := by
  rw [← hE, wordV, if_pos ((valid_iff hL hne).2 h)]

/-- The fields that have been looked at behind k rounds. -/
def rndI (L : List UInt8) (a b c : Int) (k : Nat) : Prop := (0 < k → okF L a 65) ∧ (1 < k → okF L b 66) ∧ (2 < k → okF L c 67)
theorem rndI_1 {L : List UInt8} {a b c : Int} (h : okF L a 65) : rndI L a b c 1 := ⟨fun _ => h, fun h => absurd h (by omega), fun h => absurd h (by omega)⟩
theorem rndI_2 {L : List UInt8} {a b c : Int} (H : rndI L a b c 1) (h : okF L b 66) : rndI L a b c 2 := ⟨fun _ => H.1 (by omega), fun _ => h, fun h => absurd h (by omega)⟩
theorem rndI_3 {L : List UInt8} {a b c : Int} (H : rndI L a b c 2) (h : okF L c 67) : rndI L a b c 3 := ⟨fun _ => H.1 (by omega), fun _ => H.2.1 (by omega), fun _ => h⟩
theorem sum_bd {L : List UInt8} {op a b c d : Int} (hL : formOf op = L) (hne : L.isEmpty = false) (ha : okF L a 65) (hb : okF L b 66) (hc : okF L c 67) (hd : okD L d) : 0 ≤ op ∧ 0 ≤ sumW op a b c d ∧ sumW op a b c d ≤ 4294967295 := by
  unfold okF at ha hb hc
  unfold okD at hd
  unfold sumW
  rcases form_cases op with h | ⟨h, o0, o1⟩
  · rw [hL] at h
    rw [h] at hne
    cases hne
  · rw [hL] at h
    rcases h with h | h | h | h | h <;> subst h
    · have e1 : hasL [65] 66 = false := by decide
      have e2 : hasL [65] 67 = false := by decide
      have e3 : hasL [65] 68 = false := by decide
      simp only [e1, e2, e3, Bool.false_eq_true, or_false] at hb hc hd
      omega
    · have e2 : hasL [65, 66] 67 = false := by decide
      have e3 : hasL [65, 66] 68 = false := by decide
      simp only [e2, e3, Bool.false_eq_true, or_false] at hc hd
      omega
    · have e3 : hasL [65, 66, 67] 68 = false := by decide
      simp only [e3, Bool.false_eq_true, or_false] at hd
      omega
    · have e1 : hasL [65, 68] 66 = false := by decide
      have e2 : hasL [65, 68] 67 = false := by decide
      simp only [e1, e2, Bool.false_eq_true, or_false] at hb hc
      omega
    · have e1 : hasL [68] 66 = false := by decide
      have e2 : hasL [68] 67 = false := by decide
      simp only [e1, e2, Bool.false_eq_true, or_false] at hb hc
      omega
theorem u16_eq (x : Int) : IntKind.u16.wrap x = x % 65536 := by simp [IntKind.wrap, IntKind.bits, IntKind.signed]
theorem sumW_e1 {L : List UInt8} {op a b c d : Int} (hL : formOf op = L) (hne : L.isEmpty = false) (ha : okF L a 65) (hb : okF L b 66) (hc : okF L c 67) (hd : okD L d) :
    sumW op a b c d = (op + a % 4294967296 * 256 + b % 4294967296 * 65536 + c % 4294967296 * 16777216 + IntKind.u16.wrap d % 4294967296 * 65536) % 4294967296 := by
  have h := sum_bd hL hne ha hb hc hd
  unfold okF at ha hb hc
  unfold okD at hd
  unfold sumW at *
  rw [u16_eq]
  omega
theorem sumW_e2 {L : List UInt8} {op a b c d : Int} (hL : formOf op = L) (hne : L.isEmpty = false) (ha : okF L a 65) (hb : okF L b 66) (hc : okF L c 67) (hd : okD L d) :
    sumW op a b c d = ((op + a % 4294967296 * 256 + b % 4294967296 * 65536 + c % 4294967296 * 16777216) % 4294967296 + IntKind.u16.wrap d % 4294967296 * 65536 % 4294967296) % 4294967296 := by
  rw [sumW_e1 hL hne ha hb hc hd]
  rw [u16_eq]
  omega
theorem yes_e {L : List UInt8} {op a b c d : Int} {E : Int × Int} (hE : wordV op a b c d = E) (hL : formOf op = L) (hne : L.isEmpty = false) (HD : rndI L a b c 3) (hd : okD L d) :
    E = ((op + a % 4294967296 * 256 + b % 4294967296 * 65536 + c % 4294967296 * 16777216 + IntKind.u16.wrap d % 4294967296 * 65536) % 4294967296, 0) ∧
    E = (((op + a % 4294967296 * 256 + b % 4294967296 * 65536 + c % 4294967296 * 16777216) % 4294967296 + IntKind.u16.wrap d % 4294967296 * 65536 % 4294967296) % 4294967296, 0) := by
  have ha := HD.1 (by omega)
  have hb := HD.2.1 (by omega)
  have hc := HD.2.2 (by omega)
  have h := word_yes hE hL hne ⟨ha, hb, hc, hd⟩
  exact ⟨by rw [← sumW_e1 hL hne ha hb hc hd]; exact h, by rw [← sumW_e2 hL hne ha hb hc hd]; exact h⟩
set_option maxHeartbeats 4000000 in
set_option maxRecDepth 100000 in
theorem refEncode_any (op a b c d : Int) (w : World) :
    Calls Tryd.prog 56 #[.agg #[.int .i64 op, .int .i64 a, .int .i64 b, .int .i64 c, .int .i64 d]] w fun e w' => e = .returned (.tuple #[.int .u32 (wordV op a b c d).1, .int .i64 (wordV op a b c d).2]) ∧ Below w.heap.size w w' := by
  obtain ⟨L, hL⟩ : ∃ L, formOf op = L := ⟨_, rfl⟩
  have hl3 := form_len op
  have HR := fun W => Lib.hid (row_any op W)
  rw [hL] at HR hl3
  obtain ⟨E, hE⟩ : ∃ E, wordV op a b c d = E := ⟨_, rfl⟩
  rw [hE]
  have hsz : (⟨L.toArray⟩ : ByteArray).size ≤ 4 := by show L.toArray.size ≤ 4; rw [List.size_toArray]; omega
  by_cases hnil : L.isEmpty = true
  · have hE2 : E = (0, 1) := by
      rw [← hE]
      unfold wordV
      rw [hL, List.isEmpty_iff.1 hnil]
      rfl
    have HE := Lib.hid hE2
    clear hE2 hE hL
    go_enter Tryd.func56, Tryd.ntmps56
    go_wp2_with fail
    refine ((HR _).out).mono ?_
    rintro e w1 ⟨rfl, hb⟩
    have hbw : Below w.heap.size w w1 := ((Below.refl _ _).alloc (Nat.le_refl _) _).trans (hb.mono (by simp))
    go_wp2
    go_ret2
    exact ⟨ret_E HE.out, hbw⟩
  · have hne : L.isEmpty = false := by simpa using hnil
    clear hnil
    have HE := Lib.hid hE
    have HL := Lib.hid hL
    clear hE hL
    go_enter Tryd.func56, Tryd.ntmps56
    go_wp2_with fail
    refine ((HR _).out).mono ?_
    rintro e w1 ⟨rfl, hb⟩
    have hA : w1.heap[w.heap.size]? = some (.cells #[.int .i64 op, .int .i64 a, .int .i64 b, .int .i64 c, .int .i64 d] 65 (0, 0)) := by
      rw [hb.block _ (by simp)]
      exact alloc_new _ _
    have hbw : Below w.heap.size w w1 := ((Below.refl _ _).alloc (Nat.le_refl _) _).trans (hb.mono (by simp))
    have d0 := block_cell hA 0
    have d1 := block_cell hA 1
    have d2 := block_cell hA 2
    have d3 := block_cell hA 3
    have d4 := block_cell hA 4
    simp only [List.getElem?_toArray, List.getElem?_cons_zero, List.getElem?_cons_succ] at d0 d1 d2 d3 d4
    go_wp2_with fail
    generalize hW : World.alloc w1 _ = W2
    have hV : W2.heap[w1.heap.size]? = some (.cells #[.int .i64 a, .int .i64 b, .int .i64 c] 3 (0, 0)) := by rw [← hW]; exact alloc_new _ _
    have z1 : w.heap.size < w1.heap.size := by have := hb.size; simp at this; omega
    have hA2 : W2.heap[w.heap.size]? = some (.cells #[.int .i64 op, .int .i64 a, .int .i64 b, .int .i64 c, .int .i64 d] 65 (0, 0)) := by rw [← hW]; exact (Below.heap_alloc _ _ _ z1).trans hA
    have hb2 : Below w.heap.size w W2 := by rw [← hW]; exact hbw.alloc (Nat.le_of_lt z1) _
    clear hW d0 d1 d2 d3 d4 hA
    have d0 := block_cell hA2 0
    have d1 := block_cell hA2 1
    have d2 := block_cell hA2 2
    have d3 := block_cell hA2 3
    have d4 := block_cell hA2 4
    have e0 := block_cell hV 0
    have e1 := block_cell hV 1
    have e2 := block_cell hV 2
    simp only [List.getElem?_toArray, List.getElem?_cons_zero, List.getElem?_cons_succ] at d0 d1 d2 d3 d4 e0 e1 e2
    go_loop [26] (fun i => ∃ k : Nat, i = .int .i64 k ∧ k ≤ 3 ∧ rndI L a b c k) (fun i => 3 - (intOf i).toNat)
    case atStart => exact ⟨0, rfl, by omega, fun h => absurd h (by omega), fun h => absurd h (by omega), fun h => absurd h (by omega)⟩
    case round =>
      obtain ⟨k, rfl, hk, HD⟩ := hrel
      have hc : k = 0 ∨ k = 1 ∨ k = 2 ∨ k = 3 := by omega
      rcases hc with rfl | rfl | rfl | rfl
      · obtain ⟨h, hh⟩ : ∃ h, hasL L 65 = h := ⟨_, rfl⟩
        have HA := fun W => Lib.hid (has_any ⟨L.toArray⟩ 65 W hsz)
        rw [show hasL (⟨L.toArray⟩ : ByteArray).data.toList 65 = h from hh] at HA
        have HH := Lib.hid hh
        clear hh
        cases hq : (a != 0) <;> cases h <;> go_wp2_with (go_at_call 55; refine ((HA _).out).mono ?_; rintro e w' ⟨rfl, rfl⟩)
        all_goals first
          | (go_round
             case rel =>
               simp only [bne_iff_ne, bne_eq_false_iff_eq, ne_eq] at hq
               exact ⟨1, rfl, by omega, rndI_1 ⟨by omega, by omega, by first | exact .inl hq | exact .inr HH.out⟩⟩
             case measure => decide)
          | (simp only [bne_iff_ne, bne_eq_false_iff_eq, ne_eq] at hq
             go_ret2
             exact ⟨ret_E (word_no HE.out HL.out hne (fun hx => by
               have h1 := hx.1
               unfold okF at h1
               have h2 := HH.out
               first | omega | (rw [h2] at h1; simp at h1; omega))), hb2⟩)
      · obtain ⟨h, hh⟩ : ∃ h, hasL L 66 = h := ⟨_, rfl⟩
        have HA := fun W => Lib.hid (has_any ⟨L.toArray⟩ 66 W hsz)
        rw [show hasL (⟨L.toArray⟩ : ByteArray).data.toList 66 = h from hh] at HA
        have HH := Lib.hid hh
        clear hh
        cases hq : (b != 0) <;> cases h <;> go_wp2_with (go_at_call 55; refine ((HA _).out).mono ?_; rintro e w' ⟨rfl, rfl⟩)
        all_goals first
          | (go_round
             case rel =>
               simp only [bne_iff_ne, bne_eq_false_iff_eq, ne_eq] at hq
               exact ⟨2, rfl, by omega, rndI_2 HD ⟨by omega, by omega, by first | exact .inl hq | exact .inr HH.out⟩⟩
             case measure => decide)
          | (simp only [bne_iff_ne, bne_eq_false_iff_eq, ne_eq] at hq
             go_ret2
             exact ⟨ret_E (word_no HE.out HL.out hne (fun hx => by
               have h1 := hx.2.1
               unfold okF at h1
               have h2 := HH.out
               first | omega | (rw [h2] at h1; simp at h1; omega))), hb2⟩)
      · obtain ⟨h, hh⟩ : ∃ h, hasL L 67 = h := ⟨_, rfl⟩
        have HA := fun W => Lib.hid (has_any ⟨L.toArray⟩ 67 W hsz)
        rw [show hasL (⟨L.toArray⟩ : ByteArray).data.toList 67 = h from hh] at HA
        have HH := Lib.hid hh
        clear hh
        cases hq : (c != 0) <;> cases h <;> go_wp2_with (go_at_call 55; refine ((HA _).out).mono ?_; rintro e w' ⟨rfl, rfl⟩)
        all_goals first
          | (go_round
             case rel =>
               simp only [bne_iff_ne, bne_eq_false_iff_eq, ne_eq] at hq
               exact ⟨3, rfl, by omega, rndI_3 HD ⟨by omega, by omega, by first | exact .inl hq | exact .inr HH.out⟩⟩
             case measure => decide)
          | (simp only [bne_iff_ne, bne_eq_false_iff_eq, ne_eq] at hq
             go_ret2
             exact ⟨ret_E (word_no HE.out HL.out hne (fun hx => by
               have h1 := hx.2.2.1
               unfold okF at h1
               have h2 := HH.out
               first | omega | (rw [h2] at h1; simp at h1; omega))), hb2⟩)
      · obtain ⟨h, hh⟩ : ∃ h, hasL L 68 = h := ⟨_, rfl⟩
        have HA := fun W => Lib.hid (has_any ⟨L.toArray⟩ 68 W hsz)
        rw [show hasL (⟨L.toArray⟩ : ByteArray).data.toList 68 = h from hh] at HA
        have HH := Lib.hid hh
        clear hh
        cases hq : (d != 0) <;> cases h <;> go_wp2_with (go_at_call 55; refine ((HA _).out).mono ?_; rintro e w' ⟨rfl, rfl⟩)
        all_goals
          simp only [bne_iff_ne, bne_eq_false_iff_eq, ne_eq] at hq
          go_ret2
          first
            | exact ⟨ret_E (word_no HE.out HL.out hne (fun hx => by
               have h1 := hx.2.2.2
               unfold okD at h1
               have h2 := HH.out
               first | omega | (rw [h2] at h1; simp at h1; omega))), hb2⟩
            | exact ⟨ret_E (yes_e HE.out HL.out hne HD ⟨by omega, by omega, by first | exact .inl hq | exact .inr HH.out⟩).1, hb2⟩
            | exact ⟨ret_E (yes_e HE.out HL.out hne HD ⟨by omega, by omega, by first | exact .inl hq | exact .inr HH.out⟩).2, hb2⟩
end InstrD
end Go.Proofs.YtmebhdffgpnplaaDoor
