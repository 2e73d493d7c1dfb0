/- The reader of signs. -/
import Derived.Test.YthlclmjcdpffbaaDoorLex9
namespace Go.Proofs.YthlclmjcdpffbaaDoor
open Go.RowKit ObjM Go.Maps
namespace LexD

def SG : List (List UInt8) := [[61, 61], [126, 61], [60, 61], [62, 61], [47, 47], [46, 46], [45, 62]]
def sgB (k : Nat) : List UInt8 := SG.getD k []
theorem sg_pref {l : List UInt8} {k : Nat} (hk : k < 7) : Lib.hasPrefix l (sgB k) = true ↔ l.take 2 = sgB k := by
  have h2 : (sgB k).length = 2 := by
    have : k = 0 ∨ k = 1 ∨ k = 2 ∨ k = 3 ∨ k = 4 ∨ k = 5 ∨ k = 6 := by omega
    rcases this with rfl | rfl | rfl | rfl | rfl | rfl | rfl <;> rfl
  match hs : sgB k, h2 with
  | [a, b], _ =>
    match l with
    | [] => simp [Lib.hasPrefix]
    | [c] => simp [Lib.hasPrefix]
    | c :: d :: r =>
      constructor
      · intro h
        simp [Lib.hasPrefix] at h
        obtain ⟨rfl, rfl⟩ := h
        rfl
      · intro h
        simp at h
        obtain ⟨rfl, rfl⟩ := h
        simp [Lib.hasPrefix]
theorem sg_mem (x : List UInt8) : x ∈ SG ↔ ∃ k, k < 7 ∧ x = sgB k := by
  constructor
  · intro h
    obtain ⟨k, hk, e⟩ := List.mem_iff_getElem.1 h
    exact ⟨k, hk, by rw [← e]; unfold sgB; simp [List.getD, hk]⟩
  · rintro ⟨k, hk, rfl⟩
    unfold sgB
    have : k = 0 ∨ k = 1 ∨ k = 2 ∨ k = 3 ∨ k = 4 ∨ k = 5 ∨ k = 6 := by omega
    rcases this with rfl | rfl | rfl | rfl | rfl | rfl | rfl <;> decide
def sg1 : List UInt8 := [43, 45, 42, 37, 60, 62, 61, 40, 41, 123, 125, 91, 93, 44, 58, 59, 46, 35, 124, 64]
theorem sign_two {c : UInt8} {r : List UInt8} {k : Nat} (hk : k < 7) (h : Lib.hasPrefix (c :: r) (sgB k) = true) : signN (c :: r) = 2 ∧ (c :: r).take 2 = sgB k := by
  have h2 := (sg_pref hk).1 h
  refine ⟨?_, h2⟩
  simp only [signN]
  have : (c :: r).take 2 ∈ SG := (sg_mem _).2 ⟨k, hk, h2⟩
  unfold SG at this
  rw [if_pos this]
theorem sign_one {c : UInt8} {r : List UInt8} (h : ∀ k, k < 7 → Lib.hasPrefix (c :: r) (sgB k) = false) : signN (c :: r) = if c ∈ sg1 then 1 else 0 := by
  simp only [signN]
  have : ¬ (c :: r).take 2 ∈ SG := fun hm => by
    obtain ⟨k, hk, e⟩ := (sg_mem _).1 hm
    have h2 := (sg_pref hk).2 e
    rw [h k hk] at h2
    cases h2
  unfold SG at this
  rw [if_neg this]
  rfl
theorem idx_sign : ∀ n : Fin 256, ((Lib.indexByte [43, 45, 42, 37, 60, 62, 61, 40, 41, 123, 125, 91, 93, 44, 58, 59, 46, 35, 124, 64] (UInt8.ofNat n.val) < 0) ↔ ¬ UInt8.ofNat n.val ∈ sg1) := by decide +kernel
theorem tok_sign {p : Nat} {c : UInt8} {r : List UInt8} (h0 : letB c.toNat = false) (h1 : digB c.toNat = false) (h2 : c ≠ 34) : tokV p (c :: r) = if signN (c :: r) = 0 then .error 50 else .ok (⟨5, bytes ((c :: r).take (signN (c :: r))), p, p + signN (c :: r), 0⟩, signN (c :: r)) := by
  rw [tokV, if_neg (by simp [h0]), if_neg (by simp [h1]), if_neg h2]
def SV : Value := .agg #[.string ⟨#[61, 61]⟩, .string ⟨#[126, 61]⟩, .string ⟨#[60, 61]⟩, .string ⟨#[62, 61]⟩, .string ⟨#[47, 47]⟩, .string ⟨#[46, 46]⟩, .string ⟨#[45, 62]⟩]
theorem index_sign0 (w : World) : (Instr.index 77 SV (.int .i64 0)).run Tryd.prog w = .ok (.string ⟨#[61, 61]⟩) w := by kernel_rfl
theorem index_sign1 (w : World) : (Instr.index 77 SV (.int .i64 1)).run Tryd.prog w = .ok (.string ⟨#[126, 61]⟩) w := by kernel_rfl
theorem index_sign2 (w : World) : (Instr.index 77 SV (.int .i64 2)).run Tryd.prog w = .ok (.string ⟨#[60, 61]⟩) w := by kernel_rfl
theorem index_sign3 (w : World) : (Instr.index 77 SV (.int .i64 3)).run Tryd.prog w = .ok (.string ⟨#[62, 61]⟩) w := by kernel_rfl
theorem index_sign4 (w : World) : (Instr.index 77 SV (.int .i64 4)).run Tryd.prog w = .ok (.string ⟨#[47, 47]⟩) w := by kernel_rfl
theorem index_sign5 (w : World) : (Instr.index 77 SV (.int .i64 5)).run Tryd.prog w = .ok (.string ⟨#[46, 46]⟩) w := by kernel_rfl
theorem index_sign6 (w : World) : (Instr.index 77 SV (.int .i64 6)).run Tryd.prog w = .ok (.string ⟨#[45, 62]⟩) w := by kernel_rfl
theorem index_sign (k : Nat) (hk : k < 7) (w : World) : (Instr.index 77 SV (.int .i64 (k : Int))).run Tryd.prog w = .ok (.string (bytes (sgB k))) w := by
  have hcase : k = 0 ∨ k = 1 ∨ k = 2 ∨ k = 3 ∨ k = 4 ∨ k = 5 ∨ k = 6 := by omega
  rcases hcase with rfl | rfl | rfl | rfl | rfl | rfl | rfl
  · exact index_sign0 w
  · exact index_sign1 w
  · exact index_sign2 w
  · exact index_sign3 w
  · exact index_sign4 w
  · exact index_sign5 w
  · exact index_sign6 w
theorem bytes_list (l : List UInt8) : (bytes l).data.toList = l := by simp [bytes]
theorem Moved.drew {w w1 : World} {B P m : Nat} {s : ByteArray} {at_ : Int} {ts : List Tok} (h : Moved w B P m s at_ ts w1) : Moved w B P m s at_ ts w1.drew := h.drewN 1
set_option maxRecDepth 100000 in
set_option maxHeartbeats 4000000 in
theorem sign_any (B P m : Nat) (s : ByteArray) (p : Nat) (ts : List Tok) (hs : s.size ≤ 100000) (hts : ts.length ≤ 1000000) (hp : p < s.size) (hlb : letB s[p].toNat = false) (hdb : digB s[p].toNat = false) (hq : s[p] ≠ 34) (w : World) (hBw : B ≤ w.heap.size) (tv : Value) (h : ScAt w B P m s p ts tv) :
    Calls Tryd.prog 39 #[.pointer (some ⟨P, 0, none⟩)] w (Took (decide (signN (s.data.toList.drop p) ≠ 0)) w B P m s p ts) := by
  obtain ⟨R, hR, hRl, hRs, hR0, hRp⟩ := rest_of hp
  have hcons := drop_at hp
  have hk := tok_sign (p := p) (c := s[p]) (r := s.data.toList.drop (p + 1)) hlb hdb hq
  rw [← hcons] at hk
  have HHP := fun (x : ByteArray) W => Lib.hid (Tryd.strings_HasPrefix R x W)
  have HIB := fun W => Lib.hid (Tryd.strings_IndexByte ⟨#[43, 45, 42, 37, 60, 62, 61, 40, 41, 123, 125, 91, 93, 44, 58, 59, 46, 35, 124, 64]⟩ (R[0].toNat : Int) W)
  rw [hRp, show (s[p].toNat : Int).toNat.toUInt8 = s[p] by simp] at HIB
  have H2 : Hid (∀ k, k < 7 → Lib.hasPrefix R.data.toList (sgB k) = true → tokV p (s.data.toList.drop p) = .ok (⟨5, bytes (sgB k), p, (p : Int) + 2, 0⟩, 2)) := Lib.hid (fun k hk7 hh => by
    rw [hRl, hcons] at hh
    obtain ⟨e1, e2⟩ := sign_two hk7 hh
    rw [hk, hcons, e1, if_neg (by decide), e2]
    rfl)
  have H1 : Hid ((∀ k, k < 7 → Lib.hasPrefix R.data.toList (sgB k) = false) → signN (s.data.toList.drop p) = if s[p] ∈ sg1 then 1 else 0) := Lib.hid (fun hh => by
    rw [hcons]
    exact sign_one (fun k hk7 => by have := hh k hk7; rwa [hRl, hcons] at this))
  have HS := Lib.hid (idx_sign ⟨s[p].toNat, UInt8.toNat_lt _⟩)
  simp only [show UInt8.ofNat s[p].toNat = s[p] by simp] at HS
  have HKe := Lib.hid hk
  clear hk hcons hlb hdb hq
  have HM := Lib.hid (Moved.refl h)
  have a0 := HM.out.cell0
  have a1 := HM.out.cell1
  have aP := HM.out.lt
  have hi0 : (p : Int) < (s.size : Int) := by omega
  have hi1 : (p : Int) ≤ (s.size : Int) := by omega
  have hRi : (0 : Int) < (R.size : Int) := by omega
  have hRi1 : (1 : Int) ≤ (R.size : Int) := by omega
  have HE1 := Lib.hid (ext_bytes s p 1)
  rw [hR] at HE1
  have HIB2 : ∀ W, Hid (Calls Tryd.prog 53 #[.string ⟨#[43, 45, 42, 37, 60, 62, 61, 40, 41, 123, 125, 91, 93, 44, 58, 59, 46, 35, 124, 64]⟩, .int .u8 (s[p].toNat : Int)] W fun e w' => e = .returned (.int .i64 (Lib.indexByte [43, 45, 42, 37, 60, 62, 61, 40, 41, 123, 125, 91, 93, 44, 58, 59, 46, 35, 124, 64] s[p])) ∧ w' = W) := fun W => by
    exact HIB W
  obtain ⟨sn, hsn⟩ : ∃ n, signN (s.data.toList.drop p) = n := ⟨_, rfl⟩
  rw [hsn] at H1 HKe ⊢
  obtain ⟨dc, hdc⟩ : ∃ d, decide (sn ≠ 0) = d := ⟨_, rfl⟩
  rw [hdc]
  have HD := Lib.hid hdc
  clear h HIB hsn hdc hRs hRl
  go_enter Tryd.func39, Tryd.ntmps39
  go_wp2
  go_quiet (fail)
  have HM1 := Lib.hid (HM.out.drewN nq)
  generalize World.drewN _ nq = w1 at HM1 ⊢
  clear a0 a1 aP HM
  go_wp2
  go_loopw [16] (fun i wr => ∃ k : Nat, i = .int .i64 k ∧ k ≤ 7 ∧ Hid (wr = w1) ∧ Hid (∀ j, j < k → Lib.hasPrefix R.data.toList (sgB j) = false)) (fun i _ => 7 - (intOf i).toNat)
  case atStart => exact ⟨0, rfl, by omega, Lib.hid rfl, Lib.hid (fun j hj => by omega)⟩
  case round =>
    obtain ⟨k, rfl, hk, HW, HN⟩ := hrel
    obtain rfl := HW.out
    clear HW
    have a0 := HM1.out.cell0
    have a1 := HM1.out.cell1
    have aP := HM1.out.lt
    by_cases hlt : k < 7
    · have HI : ∀ W, (Instr.index 77 (.agg #[.string ⟨#[61, 61]⟩, .string ⟨#[126, 61]⟩, .string ⟨#[60, 61]⟩, .string ⟨#[62, 61]⟩, .string ⟨#[47, 47]⟩, .string ⟨#[46, 46]⟩, .string ⟨#[45, 62]⟩]) (.int .i64 (k : Int))).run Tryd.prog W = .ok (.string (bytes (sgB k))) W := fun W => index_sign k hlt W
      have HH := fun W => HHP (bytes (sgB k)) W
      have H2k := Lib.hid (H2.out k hlt)
      have HNk : Hid (Lib.hasPrefix R.data.toList (sgB k) = false → ∀ j, j < k + 1 → Lib.hasPrefix R.data.toList (sgB j) = false) := Lib.hid (fun h j hj => by
        by_cases e : j = k
        · subst e; exact h
        · exact HN.out j (by omega))
      simp only [bytes_list] at HH
      obtain ⟨b, hb⟩ : ∃ b, Lib.hasPrefix R.data.toList (sgB k) = b := ⟨_, rfl⟩
      rw [hb] at HH H2k HNk
      generalize bytes (sgB k) = tx at HI HH H2k
      clear hb HN
      cases b
      · have HN2 := Lib.hid (HNk.out rfl)
        clear HNk H2k
        go_wp2_with fail
        refine ((HH _).out).mono ?_
        rintro e w2 ⟨rfl, hw⟩
        subst hw
        go_wp2
        go_roundw
        case rel => exact ⟨k + 1, by go_num, by omega, (by first | exact Lib.hid rfl | exact Lib.hid trivial), HN2⟩
        case measure => simp [intOf]; omega
      · have HT := Lib.hid (H2k.out rfl)
        have HPt := Lib.hid (put_moved HM1.out hBw hts 5 ((p : Int) + 2) 0 tx)
        clear HNk H2k
        have HSg : Hid (dc = true) := Lib.hid (by
          have h1 := HT.out
          rw [HKe.out] at h1
          rw [← HD.out]
          by_cases e : sn = 0
          · rw [if_pos e] at h1; cases h1
          · simp [e])
        obtain rfl := HSg.out
        clear HSg
        go_wp2_with fail
        refine ((HH _).out).mono ?_
        rintro e w2 ⟨rfl, hw⟩
        subst hw
        go_wp2_with fail
        refine (HPt.out).mono ?_
        rintro e w3 ⟨rfl, hm⟩
        have HM3 := Lib.hid hm
        clear hm
        go_wp2
        go_ret
        exact Took.yes HT.out HM3.out
    · have : k = 7 := by omega
      subst this
      have hone := H1.out HN.out
      by_cases hm : s[p] ∈ sg1
      · have hv : ¬ Lib.indexByte [43, 45, 42, 37, 60, 62, 61, 40, 41, 123, 125, 91, 93, 44, 58, 59, 46, 35, 124, 64] s[p] < 0 := fun h => HS.out.1 h hm
        rw [if_pos hm] at hone
        have HT : Hid (tokV p (s.data.toList.drop p) = .ok (⟨5, R.extract 0 1, p, (p : Int) + 1, 0⟩, 1)) := Lib.hid (by rw [HKe.out, hone, if_neg (by decide), HE1.out]; rfl)
        have HPt := fun W (hW : Moved w B P m s (p : Int) ts W) => Lib.hid (put_moved hW hBw hts 5 ((p : Int) + 1) 0 (R.extract 0 1))
        subst hone
        have HSg : Hid (dc = true) := Lib.hid (by rw [← HD.out]; rfl)
        obtain rfl := HSg.out
        generalize Lib.indexByte [43, 45, 42, 37, 60, 62, 61, 40, 41, 123, 125, 91, 93, 44, 58, 59, 46, 35, 124, 64] s[p] = v at hv HIB2
        clear HKe HS H1 H2 HE1 hm HN HSg HD
        go_wp2_with fail
        refine ((HIB2 _).out).mono ?_
        rintro e w2 ⟨rfl, hw⟩
        subst hw
        have HM1d := Lib.hid (HM1.out.drew)
        have HPd := HPt _ HM1d.out
        go_wp2
        go_still_tail 8, (by kernel_rfl)
        change wpList _ _ _ _ _ w2.drew
        go_wp2_with fail
        refine (HPd.out).mono ?_
        rintro e w3 ⟨rfl, hm⟩
        have HM3 := Lib.hid hm
        clear hm
        go_wp2
        go_ret
        exact Took.yes HT.out HM3.out
      · have hv : Lib.indexByte [43, 45, 42, 37, 60, 62, 61, 40, 41, 123, 125, 91, 93, 44, 58, 59, 46, 35, 124, 64] s[p] < 0 := HS.out.2 hm
        rw [if_neg hm] at hone
        subst hone
        have HSg : Hid (dc = false) := Lib.hid (by rw [← HD.out]; rfl)
        obtain rfl := HSg.out
        generalize Lib.indexByte [43, 45, 42, 37, 60, 62, 61, 40, 41, 123, 125, 91, 93, 44, 58, 59, 46, 35, 124, 64] s[p] = v at hv HIB2
        clear HKe HS H1 H2 HE1 hm HN HSg HD
        go_wp2_with fail
        refine ((HIB2 _).out).mono ?_
        rintro e w2 ⟨rfl, hw⟩
        subst hw
        go_wp2
        go_ret
        exact Took.no HM1.out
end LexD
end Go.Proofs.YthlclmjcdpffbaaDoor
