/- The statement LexBack. -/
import Derived.Test.YthlclmjcdpffbaaDoorLex21
namespace Go.Proofs.YthlclmjcdpffbaaDoor
open Go.RowKit ObjM Go.Maps Go.ChangeShapes
namespace LexD
open TraceD (escB quoteB hexD)

theorem hex_piece : ∀ n : Fin 256, (n.val < 32 ∨ 126 < n.val) → NumM.digV ((hexD.getD (n.val / 16) 0).toNat : Int) ≤ 15 ∧ NumM.digV ((hexD.getD (n.val % 16) 0).toNat : Int) ≤ 15 ∧ UInt8.ofNat (16 * NumM.digV ((hexD.getD (n.val / 16) 0).toNat : Int) + NumM.digV ((hexD.getD (n.val % 16) 0).toNat : Int)).toNat = UInt8.ofNat n.val := by decide +kernel
theorem esc_head : ∀ n : Fin 256, (escB (UInt8.ofNat n.val)).head? ≠ some 34 ∧ (escB (UInt8.ofNat n.val)) ≠ [] := by decide +kernel
theorem piece_esc (c : UInt8) (rest : List UInt8) : pieceV (escB c ++ rest) = some (c, (escB c).length) := by
  obtain ⟨n, hn⟩ : ∃ n, c.toNat = n := ⟨_, rfl⟩
  have hU : c = UInt8.ofNat n := by rw [← hn]; simp
  have hn256 : n < 256 := by rw [← hn]; exact UInt8.toNat_lt _
  rw [hU]
  by_cases h10 : n = 10
  · subst h10; rfl
  by_cases h92 : n = 92
  · subst h92; rfl
  by_cases h34 : n = 34
  · subst h34; rfl
  by_cases hx : n < 32 ∨ 126 < n
  · have e := TraceD.esc_hex2 ⟨n, hn256⟩ h10 h92 h34 hx
    simp only at e
    rw [e]
    obtain ⟨h1, h2, h3⟩ := hex_piece ⟨n, hn256⟩ hx
    show pieceV (92 :: 120 :: hexD.getD (n / 16) 0 :: hexD.getD (n % 16) 0 :: rest) = _
    rw [piece_x, if_pos ⟨h1, h2⟩]
    simp only [List.length_cons, List.length_nil]
    rw [← h3]
  · have hx1 : 32 ≤ n := by omega
    have hx2 : n ≤ 126 := by omega
    have e := TraceD.esc_plain2 ⟨n, hn256⟩ h10 h92 h34 hx1 hx2
    simp only at e
    rw [e]
    exact piece_self (by rw [UInt8.toNat_ofNat']; omega) (ofNat_ne hn256 (k := 92) (by omega) h92)
theorem body_esc (l : List UInt8) : bodyK 0 (l.flatMap escB ++ [34]) = some (l, (l.flatMap escB).length + 1) := by
  induction l with
  | nil => rfl
  | cons c r ih =>
    have hn : c = UInt8.ofNat c.toNat := by simp
    have he := esc_head ⟨c.toNat, UInt8.toNat_lt _⟩
    simp only at he
    rw [← hn] at he
    rw [List.flatMap_cons, List.append_assoc]
    cases hc : escB c with
    | nil => exact absurd hc he.2
    | cons d q =>
      have hd : d ≠ 34 := fun h => he.1 (by rw [hc, h]; rfl)
      have hp := piece_esc c (r.flatMap escB ++ [34])
      rw [hc] at hp
      have := body_step (l := d :: q ++ (r.flatMap escB ++ [34])) (q := 0) (c := d) (r := q ++ (r.flatMap escB ++ [34])) rfl hd hp
      rw [List.drop_zero, Nat.zero_add] at this
      rw [this]
      have hdr : (d :: q ++ (r.flatMap escB ++ [34])).drop (d :: q).length = r.flatMap escB ++ [34] := by simp
      rw [hdr, ih]
      simp
      omega
theorem scan_back (l : List UInt8) : scanV (bytes (quoteB l)) = .ok [⟨4, bytes l, 0, ((quoteB l).length : Nat), 0⟩] := by
  have hb := body_esc l
  have hq : quoteB l = 34 :: (l.flatMap escB ++ [34]) := rfl
  have hlen : (quoteB l).length = (l.flatMap escB).length + 1 + 1 := by rw [hq]; simp
  have ht : tokV 0 (quoteB l) = .ok (⟨4, bytes l, 0, 0 + ((l.flatMap escB).length + 1 + 1 : Nat), 0⟩, (l.flatMap escB).length + 1 + 1) := by
    rw [hq, tok_quote (by decide) (by decide) rfl, hb]
    rfl
  have h0 : stepB (quoteB l) = none := by
    rw [hq, stepB, if_neg (by decide), if_neg (by simp [Lib.hasPrefix])]
  have hs : scanV (bytes (quoteB l)) = scanK 0 0 ((quoteB l).drop 0) := by
    unfold scanV
    simp [bytes]
  rw [hs, scan_tok (l := quoteB l) (p := 0) (k := (l.flatMap escB).length + 1 + 1) (by omega) h0 ht, scan_end (by omega)]
  simp only [Except.ok.injEq, List.cons.injEq, and_true]
  rw [hlen]
  simp
set_option maxRecDepth 100000 in
set_option maxHeartbeats 4000000 in
theorem lexBack_u (s : ByteArray) (hs : s.size ≤ 9223372036854775807) (w : World) (hT : WTab w) :
    Calls Tryd.prog 7 #[.string s] w fun e w' => e = .returned (.bool true) ∧ Below w.heap.size w w' := by
  have HA := Lib.hid (awake_any w hT)
  have HT := Lib.hid hT
  clear hT
  by_cases h3 : 3000 < s.size
  · have h3i : (3000 : Int) < (s.size : Int) := by omega
    go_enter Tryd.func7, Tryd.ntmps7
    go_wp2_with fail
    refine (HA.out).mono ?_
    rintro e w1 ⟨rfl, hb⟩
    go_wp2
    go_ret
    exact ⟨rfl, hb⟩
  · have h3i : ¬ (3000 : Int) < (s.size : Int) := by omega
    have HQ := fun W => Lib.hid (TraceD.quote_any s (by omega) W)
    have hv := scan_back s.data.toList
    have hqs : (bytes (quoteB s.data.toList)).size = (quoteB s.data.toList).length := by simp [bytes, ByteArray.size]
    have hql : (quoteB s.data.toList).length ≤ 100000 := by
      have h1 := TraceD.flat_len s.data.toList
      have h2 : s.data.toList.length = s.size := Array.length_toList
      simp only [quoteB, List.length_cons, List.length_append, List.length_nil]
      omega
    rw [bytes_toList] at hv
    rw [← hqs] at hv hql
    have hqe : ∀ W, Hid (Calls Tryd.prog 15 #[.string s] W fun e w' => e = .returned (.string (bytes (quoteB s.data.toList))) ∧ Below W.heap.size W w') := HQ
    generalize bytes (quoteB s.data.toList) = q at hqe hv hql
    clear hqs HQ
    have HV := Lib.hid hv
    have HS := fun W (h : WTab W) => Lib.hid (scan_any q W h)
    clear hv
    go_enter Tryd.func7, Tryd.ntmps7
    go_wp2_with fail
    refine (HA.out).mono ?_
    rintro e w1 ⟨rfl, hb⟩
    have HB := Lib.hid hb
    clear hb
    go_wp2_with fail
    refine ((hqe _).out).mono ?_
    rintro e w2 ⟨rfl, hb⟩
    have HB2 := Lib.hid (HB.out.trans (hb.mono HB.out.size))
    clear hb hqe
    go_wp2_with fail
    refine ((HS _ (HT.out.below HB2.out)).out).mono ?_
    intro e w3 h1
    cases h1 with
    | long _ h _ => omega
    | err _ _ _ _ h _ _ => rw [HV.out] at h; cases h
    | ok ts tv _ _ hv hl hrow hb =>
      rw [HV.out] at hv
      injection hv with hv
      subst hv
      have HB3 := Lib.hid (HB2.out.trans (hb.mono HB2.out.size))
      have htk := tks_of_own (l := scanL q [⟨4, s, 0, (q.size : Nat), 0⟩]) rfl hrow
      obtain ⟨av, cv, rfl⟩ := htk.shape
      obtain ⟨b1, rfl, hb1, c0, c1, c2, c3, c4⟩ := htk.at 0 (by simp [scanL])
      have HQ2 := fun W => eqTok W 4 0 (q.size : Int) 0 s
      simp [scanL] at c0 c1 c2 c3 c4
      simp only [scanL, List.length_append, List.length_cons, List.length_nil]
      clear hb hrow hl htk
      go_wp2
      go_ret
      exact ⟨rfl, HB3.out⟩
end LexD
end Go.Proofs.YthlclmjcdpffbaaDoor
