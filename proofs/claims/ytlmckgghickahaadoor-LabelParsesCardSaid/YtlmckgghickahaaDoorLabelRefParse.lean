/- The document's own Parse. -/
import Derived.Test.YtlmckgghickahaaDoorLabelNum
namespace Go.Proofs.YtlmckgghickahaaDoor
open Go.RowKit
namespace LabelD
open LabelM

def lenOf : Value → Nat
  | .string b => b.size
  | _ => 0
/-- What is left of the text says what the whole will be. -/
def Left (G : Option Nat) (n : Nat) (first : Bool) (t : List UInt8) (out : Nat) (last : Int) : Prop := goM n (if first = true then 123 else 44) t out last = G
theorem parse_G {t : List UInt8} {G : Option Nat} (h0 : t ≠ [123, 125]) (h : Left G (t.length + 1) true t 0 (-1)) :
    (G = none → ParseIs t (.returned (.tuple #[.int .u64 0, .bool false]))) ∧ ∀ L : Nat, G = some L → ParseIs t (.returned (.tuple #[.int .u64 (L : Int), .bool true])) := by
  unfold Left at h
  rw [if_pos rfl] at h
  refine ⟨fun hG => ?_, fun L hG => ?_⟩
  · subst hG
    exact .inr ⟨go_none (by omega) h0 h, rfl⟩
  · subst hG
    obtain ⟨h1, h2⟩ := go_some h
    exact .inl ⟨L, h1, h2, rfl⟩
theorem left_nil {G : Option Nat} {n : Nat} {f : Bool} {out : Nat} {last : Int} (h : Left G n f [] out last) : G = none := by
  unfold Left at h
  cases n <;> exact h.symm
theorem left_want {G : Option Nat} {n : Nat} {f : Bool} {c : UInt8} {t : List UInt8} {out : Nat} {last : Int} (h : Left G n f (c :: t) out last) (hc : c ≠ (if f = true then 123 else 44)) : G = none := by
  unfold Left at h
  cases n with
  | zero => exact h.symm
  | succ n =>
    unfold goM at h
    rw [if_pos hc] at h
    exact h.symm
theorem left_bad {G : Option Nat} {n : Nat} {f : Bool} {c : UInt8} {t : List UInt8} {out : Nat} {last : Int} (h : Left G n f (c :: t) out last) (hb : (numM t).2.2 = false ∨ ((numM t).1 : Int) ≤ last) : G = none := by
  unfold Left at h
  cases n with
  | zero => exact h.symm
  | succ n =>
    unfold goM at h
    by_cases hc : c ≠ (if f = true then 123 else 44)
    · rw [if_pos hc] at h
      exact h.symm
    · rw [if_neg hc, if_pos hb] at h
      exact h.symm
theorem left_end {G : Option Nat} {n : Nat} {f : Bool} {t : List UInt8} {out : Nat} {last : Int} (h : Left G (n + 1) f ((if f = true then 123 else 44) :: t) out last) (hb : ¬ ((numM t).2.2 = false ∨ ((numM t).1 : Int) ≤ last)) (he : (numM t).2.1 = [125]) :
    G = some (out ||| 2 ^ (numM t).1) := by
  unfold Left at h
  unfold goM at h
  rw [if_neg (by simp), if_neg hb, if_pos he] at h
  exact h.symm
theorem left_next {G : Option Nat} {n : Nat} {f : Bool} {t : List UInt8} {out : Nat} {last : Int} (h : Left G (n + 1) f ((if f = true then 123 else 44) :: t) out last) (hb : ¬ ((numM t).2.2 = false ∨ ((numM t).1 : Int) ≤ last)) (he : (numM t).2.1 ≠ [125]) :
    Left G n false (numM t).2.1 (out ||| 2 ^ (numM t).1) (numM t).1 := by
  unfold Left at h ⊢
  unfold goM at h
  rw [if_neg (by simp), if_neg hb, if_neg he] at h
  rw [if_neg (by simp)]
  exact h
theorem num_lt {t : List UInt8} (h : (numM t).2.2 = true) : (numM t).1 < 64 := by
  have hh : numM t = ((numM t).1, (numM t).2.1, true) := by rw [← h]
  obtain ⟨y, hy, -⟩ := num_ok hh
  have := y.isLt
  omega

theorem num_le (t : List UInt8) : (numM t).1 ≤ 3000 := by
  unfold numM
  split
  · simp
  · rename_i a r
    have ha := a.toNat_lt
    split
    · split
      · simp only
        omega
      · rename_i b u
        have hb := b.toNat_lt
        split
        · simp only
          omega
        · simp only
          omega
    · simp

set_option maxRecDepth 100000 in
set_option maxHeartbeats 2000000 in
theorem refParse_any (t : List UInt8) (ht : t.length ≤ 1000000) (w : World) :
    Calls Tryd.prog 26 #[.string ⟨⟨t⟩⟩] w fun e w' => ParseIs t e ∧ Below w.heap.size w w' := by
  by_cases h0 : t = [123, 125]
  · subst h0
    have HZ : Hid (ParseIs [123, 125] (.returned (.tuple #[.int .u64 0, .bool true]))) := Lib.hid (.inl ⟨0, by decide, showL_zero.symm, rfl⟩)
    go_enter Tryd.func26, Tryd.ntmps26
    go_wp2
    go_ret2
    exact ⟨HZ.out, Below.refl _ _⟩
  · obtain ⟨G, hG⟩ : ∃ G, Left G (t.length + 1) true t 0 (-1) := by unfold Left; exact ⟨_, rfl⟩
    have HG := Lib.hid (parse_G h0 hG)
    have HL := Lib.hid hG
    have n1 : (t == [123, 125]) = false := by rw [beq_eq_false_iff_ne]; exact h0
    clear h0 hG
    go_enter Tryd.func26, Tryd.ntmps26
    go_wp2
    clear n1
    go_loopw [0, 4, 5, 6] (fun sv ov lv fv wr => ∃ (u : List UInt8) (n out : Nat) (last : Int) (f : Bool), sv = .string ⟨⟨u⟩⟩ ∧ ov = .int .u64 (out : Int) ∧ lv = .int .i64 last ∧ fv = .bool f ∧ u.length < n ∧ u.length ≤ 1000000 ∧ out < M64 ∧ -1 ≤ last ∧ last < 64 ∧ Left G n f u out last ∧ Below w.heap.size w wr) (fun sv _ _ _ _ => lenOf sv)
    case atStart => exact ⟨t, t.length + 1, 0, -1, true, rfl, rfl, rfl, rfl, by omega, by omega, by decide, by omega, by omega, HL.out, Below.refl _ _⟩
    case round =>
      obtain ⟨u, n, out, last, f, rfl, rfl, rfl, rfl, hun, hu, hout, hl1, hl2, hleft, hnx⟩ := hrel
      match u, hun, hu, hleft with
      | [], _, _, hleft =>
        have HG0 := Lib.hid (left_nil hleft)
        clear hleft hout
        cases f
        all_goals
          go_wp2
          go_ret2
          exact ⟨HG.out.1 HG0.out, hnx⟩
      | c :: u, hun, hu, hleft =>
        obtain ⟨wt, hwt⟩ : ∃ wt : UInt8, wt = (if f = true then 123 else 44) := ⟨_, rfl⟩
        have hwt1 : (f = true ∧ wt = 123) ∨ (f = false ∧ wt = 44) := by cases f <;> simp [hwt]
        have hix : ∀ h, (⟨⟨c :: u⟩⟩ : ByteArray)[0]'h = c := fun _ => rfl
        have hex := ext0 (c :: u) 1 (u.length + 1) (by simp)
        rw [List.drop_succ_cons, List.drop_zero] at hex
        by_cases hc : c = wt
        · have hNum := fun W => Lib.hid (number_any u (by simp at hu; omega) W)
          have hnl := num_len u
          have hun' : u.length + 1 < n := by simpa using hun
          have hu' : u.length + 1 ≤ 1000000 := by simpa using hu
          have HN : Hid (numM u = ((numM u).1, (numM u).2.1, (numM u).2.2)) := Lib.hid rfl
          have HB := fun hb => Lib.hid (left_bad hleft hb)
          match n, hun', hleft with
          | 0, hun', _ => omega
          | n + 1, hun', hleft =>
            rw [hc, hwt] at hleft
            have HE := Lib.hid (fun h1 h2 => left_end hleft h1 h2)
            have HX := Lib.hid (fun h1 h2 => left_next hleft h1 h2)
            have HK := Lib.hid (fun h => num_lt (t := u) h)
            have HKB := Lib.hid (num_le u)
            clear hleft HN
            obtain ⟨k, hk⟩ : ∃ k, (numM u).1 = k := ⟨_, rfl⟩
            obtain ⟨r, hr⟩ : ∃ r, (numM u).2.1 = r := ⟨_, rfl⟩
            obtain ⟨ok, hok⟩ : ∃ ok, (numM u).2.2 = ok := ⟨_, rfl⟩
            simp only [hk, hr, hok] at hNum HB HE HX HK HKB hnl
            clear hk hr hok hwt
            have hk62 : k < 4611686018427387904 := by
              by_cases h : ok = true
              · have := HK.out h
                omega
              · exact Nat.lt_of_le_of_lt HKB.out (by decide)
            by_cases hbad : ok = false ∨ (k : Int) ≤ last
            · have HG0 := Lib.hid ((HB hbad).out)
              clear HB HE HX HK hout HKB
              cases ok
              all_goals
                rcases hwt1 with ⟨rfl, rfl⟩ | ⟨rfl, rfl⟩
                all_goals
                  subst hc
                  try (have hkl : (k : Int) ≤ last := by simpa using hbad)
                  clear hbad
                  go_wp2_with fail
                  refine ((hNum _).out).mono ?_
                  rintro e w1 ⟨rfl, hb1⟩
                  go_wp2
                  go_ret2
                  exact ⟨HG.out.1 HG0.out, hnx.trans (hb1.mono hnx.size)⟩
            · rw [not_or] at hbad
              obtain ⟨hb0, hb2⟩ := hbad
              obtain rfl : ok = true := by simpa using hb0
              have hk64 := HK.out rfl
              have hb3 : ¬ (true = false ∨ (k : Int) ≤ last) := by rintro (h | h); cases h; exact hb2 h
              have hsh := or_pow out hout hk64
              have hol : out ||| 2 ^ k < M64 := or_lt hout (by unfold M64; exact Nat.pow_lt_pow_right (a := 2) (n := 64) (by decide) hk64)
              by_cases hr1 : r = [125]
              · have HG0 := Lib.hid (HE.out hb3 hr1)
                have Hol := Lib.hid hol
                have Hsh := Lib.hid hsh
                subst hr1
                clear HB HE HX HK hout HKB hb3 hol hsh
                rcases hwt1 with ⟨rfl, rfl⟩ | ⟨rfl, rfl⟩
                all_goals
                  subst hc
                  go_wp2_with fail
                  refine ((hNum _).out).mono ?_
                  rintro e w1 ⟨rfl, hb1⟩
                  go_wp2
                  go_ret2
                  refine ⟨?_, hnx.trans (hb1.mono hnx.size)⟩
                  show ParseIs t (.returned (.tuple #[.int .u64 (bits .or .u64 (out : Int) (IntKind.u64.wrap (2 ^ k))), .bool true]))
                  rw [Hsh.out]
                  exact HG.out.2 _ HG0.out
              · have HG0 := Lib.hid (HX.out hb3 hr1)
                have Hol := Lib.hid hol
                have Hsh := Lib.hid hsh
                have hrB : (r == [125]) = false := by rw [beq_eq_false_iff_ne]; exact hr1
                clear HB HE HX HK hout HKB hb3 hol hsh hr1
                rcases hwt1 with ⟨rfl, rfl⟩ | ⟨rfl, rfl⟩
                all_goals
                  subst hc
                  go_wp2_with fail
                  refine ((hNum _).out).mono ?_
                  rintro e w1 ⟨rfl, hb1⟩
                  go_wp2
                  go_roundw
                  case rel => exact ⟨r, n, out ||| 2 ^ k, k, false, rfl, by rw [Hsh.out], rfl, rfl, by omega, by omega, Hol.out, by omega, by omega, HG0.out, hnx.trans (hb1.mono hnx.size)⟩
                  case measure => simp [lenOf, ByteArray.size]; omega
        · have HG0 := Lib.hid (left_want hleft (by rw [← hwt]; exact hc))
          have e1 : ((c.toNat : Int) != (wt.toNat : Int)) = true := by
            rw [bne_iff_ne]
            intro h
            exact hc (UInt8.toNat_inj.1 (by omega))
          clear hleft hout hwt hc
          rcases hwt1 with ⟨rfl, rfl⟩ | ⟨rfl, rfl⟩
          all_goals
            simp at e1
            go_wp2
            go_ret2
            exact ⟨HG.out.1 HG0.out, hnx⟩
end LabelD
end Go.Proofs.YtlmckgghickahaaDoor
