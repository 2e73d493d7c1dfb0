/- A string's pieces. -/
import Derived.Test.YthlclmjcdpffbaaDoorLex7
namespace Go.Proofs.YthlclmjcdpffbaaDoor
open Go.RowKit ObjM Go.Maps
namespace LexD

/-- What piece comes to. -/
def PieceIs (l : List UInt8) (a : Int) (w : World) (e : Ending) (w' : World) : Prop :=
  (∃ (b : UInt8) (k : Nat), pieceV l = some (b, k) ∧ e = .returned (.tuple #[.int .u8 (b.toNat : Int), .int .i64 (k : Int)]) ∧ Below w.heap.size w w') ∨
  (pieceV l = none ∧ e = .panicked (panW a 52) ∧ Below w.heap.size w w')
theorem PieceIs.yes {l : List UInt8} {a : Int} {w w' : World} {b : UInt8} {k : Nat} {n : Int} (h : pieceV l = some (b, k)) (hn : n = (b.toNat : Int)) (hb : Below w.heap.size w w') : PieceIs l a w (.returned (.tuple #[.int .u8 n, .int .i64 (k : Int)])) w' := .inl ⟨b, k, h, by rw [hn], hb⟩
theorem PieceIs.no {l : List UInt8} {a : Int} {w w' : World} (h : pieceV l = none) (hb : Below w.heap.size w w') : PieceIs l a w (.panicked (panW a 52)) w' := .inr ⟨h, rfl, hb⟩
/-- What two hexadecimal digits count. -/
theorem hex_two (a b : UInt8) : (NumM.numV [48, 120, a, b]).2 = true ↔ (NumM.digV a.toNat ≤ 15 ∧ NumM.digV b.toNat ≤ 15) := by
  have ha := NumM.digV_lo a.toNat
  have hb := NumM.digV_lo b.toNat
  have h0 : NumM.numV [48, 120, a, b] = NumM.hexF [a, b] 0 := by
    unfold NumM.numV NumM.hexV
    simp [Lib.hasPrefix]
  rw [h0]
  unfold NumM.hexF
  split
  · rename_i h
    simp
    intro h1
    omega
  · rename_i h
    unfold NumM.hexF
    split
    · rename_i h2
      simp
      intro _
      omega
    · rename_i h2
      unfold NumM.hexF
      simp
      omega
theorem hex_val (a b : UInt8) (h : NumM.digV a.toNat ≤ 15 ∧ NumM.digV b.toNat ≤ 15) : (NumM.numV [48, 120, a, b]).1 = 16 * NumM.digV a.toNat + NumM.digV b.toNat := by
  have ha := NumM.digV_lo a.toNat
  have hb := NumM.digV_lo b.toNat
  have h0 : NumM.numV [48, 120, a, b] = NumM.hexF [a, b] 0 := by
    unfold NumM.numV NumM.hexV
    simp [Lib.hasPrefix]
  rw [h0]
  unfold NumM.hexF
  rw [if_neg (by omega)]
  unfold NumM.hexF
  rw [if_neg (by omega)]
  unfold NumM.hexF
  simp only [wrap64]
  omega
theorem list_two {R : ByteArray} (h : 2 ≤ R.size) : R.data.toList = R[0] :: R[1] :: R.data.toList.drop 2 := by
  have h1 : R.data.toList = R.data.toList.drop 0 := by simp
  rw [h1, drop_at (p := 0) (by omega), drop_at (p := 1) (by omega)]
  simp
theorem list_four {R : ByteArray} (h : 4 ≤ R.size) : R.data.toList = R[0] :: R[1] :: R[2] :: R[3] :: R.data.toList.drop 4 := by
  have e : R.data.toList.drop 2 = R[2] :: R[3] :: R.data.toList.drop 4 := by rw [drop_at (p := 2) (by omega), drop_at (p := 3) (by omega)]
  have e2 := list_two (R := R) (by omega)
  rw [e] at e2
  exact e2
theorem list_zero {R : ByteArray} (h : 0 < R.size) : ∃ r, R.data.toList = R[0] :: r := ⟨R.data.toList.drop 1, by
  have := drop_at (s := R) (p := 0) h
  simpa using this⟩
theorem piece_bad {c : UInt8} {r : List UInt8} (h : c.toNat < 32 ∨ 126 < c.toNat) : pieceV (c :: r) = none := by
  cases r <;> simp only [pieceV, if_pos h]
theorem piece_self {c : UInt8} {r : List UInt8} (h : ¬ (c.toNat < 32 ∨ 126 < c.toNat)) (h2 : c ≠ 92) : pieceV (c :: r) = some (c, 1) := by
  cases r <;> simp only [pieceV, if_neg h, if_pos h2]
theorem piece_n {q : List UInt8} : pieceV (92 :: 110 :: q) = some (10, 2) := rfl
theorem piece_q {d : UInt8} {q : List UInt8} (h : d = 92 ∨ d = 34) : pieceV (92 :: d :: q) = some (d, 2) := by
  rcases h with rfl | rfl <;> rfl
theorem piece_x {a b : UInt8} {q : List UInt8} : pieceV (92 :: 120 :: a :: b :: q) = if NumM.digV a.toNat ≤ 15 ∧ NumM.digV b.toNat ≤ 15 then some (UInt8.ofNat (16 * NumM.digV a.toNat + NumM.digV b.toNat).toNat, 4) else none := by
  simp [pieceV]
theorem piece_x_few {q : List UInt8} (h : ∀ a b r, q ≠ a :: b :: r) : pieceV (92 :: 120 :: q) = none := by
  match q, h with
  | [], _ => rfl
  | [a], _ => rfl
  | a :: b :: r, h => exact absurd rfl (h a b r)
theorem piece_other {d : UInt8} {q : List UInt8} (h : ¬ d = 110) (h2 : ¬ (d = 92 ∨ d = 34)) (h3 : ¬ d = 120) : pieceV (92 :: d :: q) = none := by
  simp [pieceV, h, h2, h3]
theorem list_one {R : ByteArray} (h0 : 0 < R.size) (h : ¬ 2 ≤ R.size) : R.data.toList = [R[0]] := by
  have h1 : R.data.toList = R.data.toList.drop 0 := by simp
  rw [h1, drop_at (p := 0) (by omega), List.drop_eq_nil_of_le (by simp; omega)]
theorem list_few {R : ByteArray} (h0 : 2 ≤ R.size) (h : ¬ 4 ≤ R.size) : ∀ a b r, R.data.toList.drop 2 ≠ a :: b :: r := by
  intro a b r e
  have := congrArg List.length e
  simp at this
  omega
set_option maxRecDepth 100000 in
set_option maxHeartbeats 4000000 in
theorem piece_any (B P m : Nat) (s : ByteArray) (at_ : Int) (p : Nat) (ts : List Tok) (hs : s.size ≤ 100000) (hp : p < s.size) (w : World) (tv : Value) (h : ScAt w B P m s at_ ts tv) :
    Calls Tryd.prog 55 #[.pointer (some ⟨P, 0, none⟩), .int .i64 (p : Int)] w (PieceIs (s.data.toList.drop p) at_ w) := by
  obtain ⟨R, hR, hRl, hRs, hR0, -⟩ := rest_of hp
  obtain ⟨L, hL⟩ : ∃ L, s.data.toList.drop p = L := ⟨_, rfl⟩
  rw [hL] at hRl ⊢
  have HRl := Lib.hid hRl
  have HM := Moved.refl h
  have a0 := HM.cell0
  have a1 := HM.cell1
  have aP := HM.lt
  have hi0 : (p : Int) < (s.size : Int) := by omega
  have hi1 : (p : Int) ≤ (s.size : Int) := by omega
  have hRi : (0 : Int) < (R.size : Int) := by omega
  have hRb : R.size ≤ 100000 := by omega
  clear h HM hL hRl hRs
  obtain ⟨n, hn⟩ : ∃ n, R[0].toNat = n := ⟨_, rfl⟩
  have hn9 : R[0] = UInt8.ofNat n := by rw [← hn]; simp
  have hnl : n < 256 := by rw [← hn]; exact R[0].toNat_lt
  obtain ⟨r1, hr1⟩ := list_zero hR0
  by_cases h1 : n < 32 ∨ 126 < n
  · have HV : Hid (pieceV L = none) := Lib.hid (by
      rw [← HRl.out, hr1]
      exact piece_bad (by rw [hn]; exact h1))
    have h1' : ((n : Int) < 32) ∨ (¬ ((n : Int) < 32) ∧ (126 : Int) < (n : Int)) := by omega
    clear h1 hr1 hn9
    rcases h1' with h1' | ⟨h1', h1''⟩
    all_goals
      go_enter Tryd.func55, Tryd.ntmps55
      go_wp2
      exact ⟨rfl, PieceIs.no HV.out (Below.refl _ _)⟩
  · have h11 : ¬ ((n : Int) < 32) := by omega
    have h12 : ¬ (126 : Int) < (n : Int) := by omega
    by_cases h2 : n = 92
    · subst h2
      have hR92 : R[0] = 92 := hn9
      clear hn9 hr1
      by_cases h3 : 2 ≤ R.size
      · have hl2 := list_two h3
        rw [hR92] at hl2
        have hRi2 : ¬ (R.size : Int) < 2 := by omega
        have hRi1 : (1 : Int) < (R.size : Int) := by omega
        obtain ⟨d, hd⟩ : ∃ d, R[1].toNat = d := ⟨_, rfl⟩
        have hd9 : R[1] = UInt8.ofNat d := by rw [← hd]; simp
        have hdl : d < 256 := by rw [← hd]; exact R[1].toNat_lt
        rw [hd9] at hl2
        by_cases d1 : d = 110
        · subst d1
          have HV : Hid (pieceV L = some (10, 2)) := Lib.hid (by rw [← HRl.out, hl2]; rfl)
          clear hl2 hd9
          go_enter Tryd.func55, Tryd.ntmps55
          go_wp2
          go_ret2
          exact PieceIs.yes HV.out rfl (Below.refl _ _)
        have d1b : ((d : Int) == 110) = false := by simp; omega
        by_cases d2 : d = 92
        · subst d2
          have HV : Hid (pieceV L = some (92, 2)) := Lib.hid (by rw [← HRl.out, hl2]; rfl)
          clear hl2 hd9 d1
          go_enter Tryd.func55, Tryd.ntmps55
          go_wp2
          go_ret2
          exact PieceIs.yes HV.out rfl (Below.refl _ _)
        have d2b : ((d : Int) == 92) = false := by simp; omega
        by_cases d3 : d = 34
        · subst d3
          have HV : Hid (pieceV L = some (34, 2)) := Lib.hid (by rw [← HRl.out, hl2]; rfl)
          clear hl2 hd9 d1 d2
          go_enter Tryd.func55, Tryd.ntmps55
          go_wp2
          go_ret2
          exact PieceIs.yes HV.out rfl (Below.refl _ _)
        have d3b : ((d : Int) == 34) = false := by simp; omega
        by_cases d4 : d = 120
        · subst d4
          by_cases h4 : 4 ≤ R.size
          · have h4i : (4 : Int) ≤ (R.size : Int) := by omega
            have hl4 := list_four h4
            rw [hR92, hd9] at hl4
            have hT : ((⟨#[48, 120]⟩ : ByteArray) ++ R.extract 2 4).data.toList = ([48, 120, R[2], R[3]] : List UInt8) := by
              rw [ByteArray.data_append, Array.toList_append, ext_toList, drop_at (p := 2) (by omega), drop_at (p := 3) (by omega)]
              simp
            have hTs : ((⟨#[48, 120]⟩ : ByteArray) ++ R.extract 2 4).size = 4 := by
              rw [ByteArray.size_append, ByteArray.size_extract]
              show 2 + (min 4 R.size - 2) = 4
              omega
            have HN := fun W => Lib.hid (lexNumber_any ((⟨#[48, 120]⟩ : ByteArray) ++ R.extract 2 4) W (by omega))
            rw [hT] at HN
            have HV : Hid (pieceV L = if NumM.digV R[2].toNat ≤ 15 ∧ NumM.digV R[3].toNat ≤ 15 then some (UInt8.ofNat (16 * NumM.digV R[2].toNat + NumM.digV R[3].toNat).toNat, 4) else none) := Lib.hid (by rw [← HRl.out, hl4]; exact piece_x)
            have h20 := NumM.digV_lo R[2].toNat
            have h30 := NumM.digV_lo R[3].toNat
            have hx2 := hex_two R[2] R[3]
            have hx3 := hex_val R[2] R[3]
            obtain ⟨x2, e2⟩ : ∃ x, NumM.digV R[2].toNat = x := ⟨_, rfl⟩
            obtain ⟨x3, e3⟩ : ∃ x, NumM.digV R[3].toNat = x := ⟨_, rfl⟩
            obtain ⟨nv, env⟩ : ∃ x, (NumM.numV [48, 120, R[2], R[3]]).1 = x := ⟨_, rfl⟩
            obtain ⟨ok, eok⟩ : ∃ x, (NumM.numV [48, 120, R[2], R[3]]).2 = x := ⟨_, rfl⟩
            rw [e2] at h20
            rw [e3] at h30
            rw [e2, e3] at HV hx2 hx3
            rw [env] at HN hx3
            rw [eok] at HN hx2
            clear hT hTs e2 e3 env eok hl4 hl2 hd9 d1 d2 d3
            cases ok
            · have HV2 : Hid (pieceV L = none) := Lib.hid (by
                rw [HV.out, if_neg (fun h => by have := hx2.2 h; cases this)])
              clear hx2 hx3 HV
              go_enter Tryd.func55, Tryd.ntmps55
              go_wp2_with fail
              refine ((HN _).out).mono ?_
              rintro e w1 ⟨rfl, hb⟩
              have c1 := (hb.cell (p := ⟨P, 1, none⟩) aP).trans a1
              have cP := Nat.lt_of_lt_of_le aP hb.size
              have HB := Lib.hid hb
              clear hb
              go_wp2
              exact ⟨rfl, PieceIs.no HV2.out HB.out⟩
            · have hxx := hx2.1 rfl
              have hx4 := hx3 hxx
              have HV2 : Hid (pieceV L = some (UInt8.ofNat nv.toNat, 4)) := Lib.hid (by
                rw [HV.out, if_pos hxx, hx4]
                rfl)
              have hnv : 0 ≤ nv ∧ nv ≤ 255 := by omega
              have hnm : nv % 256 = nv := by omega
              clear hx2 hx3 hxx hx4 HV
              go_enter Tryd.func55, Tryd.ntmps55
              go_wp2_with fail
              refine ((HN _).out).mono ?_
              rintro e w1 ⟨rfl, hb⟩
              have HB := Lib.hid hb
              clear hb
              go_wp2
              go_ret2
              exact PieceIs.yes HV2.out (by
                rw [UInt8.toNat_ofNat']
                omega) HB.out
          · have h4i : ¬ (4 : Int) ≤ (R.size : Int) := by omega
            have HV : Hid (pieceV L = none) := Lib.hid (by rw [← HRl.out, hl2]; exact piece_x_few (list_few h3 h4))
            clear hl2 hd9 d1 d2 d3
            go_enter Tryd.func55, Tryd.ntmps55
            go_wp2
            exact ⟨rfl, PieceIs.no HV.out (Below.refl _ _)⟩
        · have d4b : ((d : Int) == 120) = false := by simp; omega
          have hne : ∀ k : Nat, k < 256 → d ≠ k → ¬ UInt8.ofNat d = UInt8.ofNat k := fun k hk hdk e => by
            have := congrArg UInt8.toNat e
            simp at this
            omega
          have HV : Hid (pieceV L = none) := Lib.hid (by rw [← HRl.out, hl2]; exact piece_other (hne 110 (by omega) d1) (fun h => by rcases h with h | h; exact hne 92 (by omega) d2 h; exact hne 34 (by omega) d3 h) (hne 120 (by omega) d4))
          clear hl2 hd9 d1 d2 d3 d4 hne
          go_enter Tryd.func55, Tryd.ntmps55
          go_wp2
          exact ⟨rfl, PieceIs.no HV.out (Below.refl _ _)⟩
      · have HV : Hid (pieceV L = none) := Lib.hid (by
          rw [← HRl.out, list_one hR0 h3, hR92]
          rfl)
        have h3' : (R.size : Int) < 2 := by omega
        clear hR92
        go_enter Tryd.func55, Tryd.ntmps55
        go_wp2
        exact ⟨rfl, PieceIs.no HV.out (Below.refl _ _)⟩
    · have HV : Hid (pieceV L = some (UInt8.ofNat n, 1)) := Lib.hid (by
        rw [← HRl.out, hr1, ← hn9]
        exact piece_self (by rw [hn]; exact h1) (by
          intro e
          rw [e] at hn
          exact h2 hn.symm))
      have h2b : ((n : Int) != 92) = true := by simp; omega
      clear hr1 hn9
      go_enter Tryd.func55, Tryd.ntmps55
      go_wp2
      go_ret2
      exact PieceIs.yes HV.out (by rw [UInt8.toNat_ofNat']; omega) (Below.refl _ _)
end LexD
end Go.Proofs.YthlclmjcdpffbaaDoor
