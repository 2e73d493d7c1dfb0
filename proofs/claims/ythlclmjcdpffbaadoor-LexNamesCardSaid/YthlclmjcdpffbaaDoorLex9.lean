/- The reader of strings. -/
import Derived.Test.YthlclmjcdpffbaaDoorLex8
import Derived.Test.YthlclmjcdpffbaaDoorTraceQ
namespace Go.Proofs.YthlclmjcdpffbaaDoor
open Go.RowKit ObjM Go.Maps
namespace LexD

theorem piece_len {l : List UInt8} {b : UInt8} {n : Nat} (h : pieceV l = some (b, n)) : 1 ≤ n ∧ n ≤ l.length := by
  match l, h with
  | [], h => cases h
  | c :: r, h =>
    by_cases h1 : c.toNat < 32 ∨ 126 < c.toNat
    · rw [piece_bad h1] at h; cases h
    by_cases h2 : c = 92
    · subst h2
      match r, h with
      | [], h => cases h
      | d :: q, h =>
        by_cases d1 : d = 110
        · subst d1
          rw [piece_n] at h; injection h with h; injection h with _ h; subst h; simp
        by_cases d2 : d = 92 ∨ d = 34
        · rw [piece_q d2] at h; injection h with h; injection h with _ h; subst h; simp
        by_cases d3 : d = 120
        · subst d3
          match q, h with
          | [], h => cases h
          | [a], h => cases h
          | a :: b :: t, h =>
            rw [piece_x] at h
            split at h
            · injection h with h; injection h with _ h; subst h; simp
            · cases h
        · rw [piece_other d1 d2 d3] at h; cases h
    · rw [piece_self h1 h2] at h; injection h with h; injection h with _ h; subst h; simp
theorem body_step {l : List UInt8} {q : Nat} {c b : UInt8} {r : List UInt8} {n : Nat} (e : l.drop q = c :: r) (hc : c ≠ 34) (h : pieceV (l.drop q) = some (b, n)) :
    bodyK 0 (l.drop q) = (bodyK 0 (l.drop (q + n))).map fun x => (b :: x.1, x.2 + n) := by
  have hn := (piece_len h).1
  have e2 : l.drop (q + n) = r.drop (n - 1) := by
    rw [← List.drop_drop, e]
    cases n with
    | zero => omega
    | succ n => simp
  rw [e2, e]
  rw [e] at h
  rw [bodyK, if_neg hc, h]
  show (bodyK (n - 1) r).map _ = _
  rw [bodyK_drop, Option.map_map]
  congr 1
  funext x
  simp only [Function.comp]
  congr 1
  omega
theorem body_none {l : List UInt8} {c : UInt8} {r : List UInt8} (e : l = c :: r) (hc : c ≠ 34) (h : pieceV l = none) : bodyK 0 l = none := by
  subst e
  rw [bodyK, if_neg hc, h]
theorem body_end {c : UInt8} {r : List UInt8} (hc : c = 34) : bodyK 0 (c :: r) = some ([], 1) := by
  rw [bodyK, if_pos hc]
/-- The first bytes read, what is still to come. -/
def BodyAt (l : List UInt8) (p j : Nat) (acc : List UInt8) : Prop := bodyK 0 (l.drop (p + 1)) = (bodyK 0 (l.drop (p + 1 + j))).map fun x => (acc ++ x.1, x.2 + j)
theorem BodyAt.zero (l : List UInt8) (p : Nat) : BodyAt l p 0 [] := by
  unfold BodyAt
  simp
theorem BodyAt.step {l : List UInt8} {p j n : Nat} {acc : List UInt8} {b c : UInt8} {r : List UInt8} (h : BodyAt l p j acc) (e : l.drop (p + 1 + j) = c :: r) (hc : c ≠ 34) (h2 : pieceV (l.drop (p + 1 + j)) = some (b, n)) : BodyAt l p (j + n) (acc ++ [b]) := by
  unfold BodyAt at h ⊢
  rw [h, body_step e hc h2, Option.map_map, show p + 1 + (j + n) = p + 1 + j + n by omega]
  congr 1
  funext x
  simp only [Function.comp, List.append_assoc]
  congr 1
  omega
theorem tok_quote {p : Nat} {c : UInt8} {r : List UInt8} (h0 : letB c.toNat = false) (h1 : digB c.toNat = false) (h : c = 34) : tokV p (c :: r) = match bodyK 0 r with
      | some (x, n) => .ok (⟨4, bytes x, p, p + (n + 1 : Nat), 0⟩, n + 1)
      | none => .error 52 := by
  rw [tokV, if_neg (by simp [h0]), if_neg (by simp [h1]), if_pos h]
  cases bodyK 0 r with
  | none => rfl
  | some x => rfl
theorem BodyAt.no {l : List UInt8} {p j : Nat} {acc : List UInt8} (h : BodyAt l p j acc) (h2 : bodyK 0 (l.drop (p + 1 + j)) = none) : bodyK 0 (l.drop (p + 1)) = none := by
  unfold BodyAt at h
  rw [h, h2]
  rfl
theorem BodyAt.yes {l : List UInt8} {p j : Nat} {acc : List UInt8} {c : UInt8} {r : List UInt8} (h : BodyAt l p j acc) (e : l.drop (p + 1 + j) = c :: r) (hc : c = 34) : bodyK 0 (l.drop (p + 1)) = some (acc, j + 1) := by
  unfold BodyAt at h
  rw [h, e, body_end hc]
  simp
  omega
theorem builder_below {T e : TypeId} {B b : Nat} {bs : List Value} {w w' : World} (h : Lib.IsBuilder T e B b bs w) (hb : Below w.heap.size w w') : Lib.IsBuilder T e B b bs w' := by
  have go : ∀ p, Lib.BuilderAt T e B b p bs w → Lib.BuilderAt T e B b p bs w' := by
    rintro p ⟨hB, v, hbk, hown, hne⟩
    exact ⟨hB, v, (hb.block b (Array.getElem?_eq_some_iff.1 hbk).1).trans hbk, own_keepsT hown (KeepsT.below hb []) (by simp), hne⟩
  exact h.imp (go _) (go _)
theorem builder_new (w : World) (b : Nat) (W : World) (hb : b = w.heap.size) (hW : W = w.alloc (.cells #[.pointer none, .slice none 0 0] 51)) : Lib.IsBuilder 51 5 w.heap.size b (Lib.byteCells []) W := by
  subst hb hW
  exact .inl ⟨Nat.le_refl _, .slice none 0 0, Has.new w 51 [.pointer none, .slice none 0 0], World.ownsRow_nil _ _ _ _, by simp [Value.ownBlock]⟩
set_option maxRecDepth 100000 in
set_option maxHeartbeats 4000000 in
theorem quoted_any (B P m : Nat) (s : ByteArray) (p : Nat) (ts : List Tok) (hs : s.size ≤ 100000) (hts : ts.length ≤ 1000000) (hp : p < s.size) (hlb : letB s[p].toNat = false) (hdb : digB s[p].toNat = false) (w : World) (hBw : B ≤ w.heap.size) (tv : Value) (h : ScAt w B P m s p ts tv) :
    Calls Tryd.prog 38 #[.pointer (some ⟨P, 0, none⟩)] w (Took (decide (s[p] = 34)) w B P m s p ts) := by
  have hcons := drop_at hp
  have hk := tok_quote (p := p) (c := s[p]) (r := s.data.toList.drop (p + 1)) hlb hdb
  rw [← hcons] at hk
  have HM := Lib.hid (Moved.refl h)
  have a0 := HM.out.cell0
  have a1 := HM.out.cell1
  have aP := HM.out.lt
  have hi0 : (p : Int) < (s.size : Int) := by omega
  obtain ⟨n, hn⟩ : ∃ n, s[p].toNat = n := ⟨_, rfl⟩
  have hU : s[p] = UInt8.ofNat n := by rw [← hn]; simp
  have hn256 : n < 256 := by rw [← hn]; exact UInt8.toNat_lt _
  have hdec : decide (s[p] = 34) = decide (n = 34) := by
    rw [hU]
    by_cases e : n = 34
    · subst e; rfl
    · have : ¬ UInt8.ofNat n = 34 := fun h => by
        have := congrArg UInt8.toNat h
        simp at this
        omega
      simp [e, this]
  rw [hdec]
  clear hcons hlb hdb hdec
  by_cases h34 : n = 34
  · have hk2 := hk (by rw [hU, h34]; rfl)
    clear hk hU
    subst h34
    simp only [decide_true]
    have HK := Lib.hid hk2
    have HSc := Lib.hid h
    clear hk2 h
    go_enter Tryd.func38, Tryd.ntmps38
    go_wp2
    go_quiet (fail)
    have HM1 := Lib.hid (HM.out.drewN nq)
    have hBw1 : B ≤ (World.drewN w nq).heap.size := by simpa using hBw
    generalize World.drewN _ nq = w1 at HM1 hBw1 ⊢
    clear a0 a1 aP HM HSc
    have HWB := fun (bs : List Value) (c : Int) (W : World) h hl hB => Lib.hid (TraceD.writeByte_any w1.heap.size w1.heap.size bs c W h hl hB)
    have HB0 : Hid (Lib.IsBuilder 51 5 w1.heap.size w1.heap.size (Lib.byteCells []) (w1.alloc (.cells #[.pointer none, .slice none 0 0] 51))) := Lib.hid (builder_new w1 _ _ rfl rfl)
    have HBl0 := Lib.hid ((Below.refl w1.heap.size w1).alloc (Nat.le_refl _) (.cells #[.pointer none, .slice none 0 0] 51))
    have HA0 := Lib.hid (BodyAt.zero s.data.toList p)
    have HM2 := Lib.hid (HM1.out.below hBw HBl0.out)
    have a0 := HM2.out.cell0
    have a1 := HM2.out.cell1
    have aP := HM2.out.lt
    go_wp2
    clear a0 a1 aP HM2
    go_loopw [4, 5, 6] (fun i _ _ wr => ∃ (q j : Nat) (acc : List UInt8), i = .int .i64 (q : Int) ∧ q = p + 1 + j ∧ q ≤ s.size ∧ acc.length ≤ j ∧ Below w1.heap.size w1 wr ∧ Hid (Lib.IsBuilder 51 5 w1.heap.size w1.heap.size (Lib.byteCells acc) wr) ∧ Hid (BodyAt s.data.toList p j acc)) (fun i _ _ _ => s.size - (intOf i).toNat)
    case atStart => exact ⟨p + 1, 0, [], by simp, rfl, by omega, by simp, HBl0.out, HB0, HA0⟩
    case round =>
      obtain ⟨q, j, acc, rfl, hqj, hq, hacc, hBr, HBu, HA⟩ := hrel
      have HB := Lib.hid hBr
      have hsz := hBr.size
      have HMr := Lib.hid (HM1.out.below hBw hBr)
      clear hBr
      have a0 := HMr.out.cell0
      have a1 := HMr.out.cell1
      have aP := HMr.out.lt
      have hjs : acc.length ≤ 100000 := by omega
      by_cases hlt : q < s.size
      · have hi1 : (q : Int) < (s.size : Int) := by omega
        have hcq := drop_at hlt
        have hcq2 : s.data.toList.drop (p + 1 + j) = s[q] :: s.data.toList.drop (q + 1) := by rw [← hqj]; exact hcq
        obtain ⟨m2, hm2⟩ : ∃ n, s[q].toNat = n := ⟨_, rfl⟩
        have hUq : s[q] = UInt8.ofNat m2 := by rw [← hm2]; simp
        have hm256 : m2 < 256 := by rw [← hm2]; exact UInt8.toNat_lt _
        by_cases h34 : m2 = 34
        · subst h34
          have HY := Lib.hid (HA.out.yes hcq2 hUq)
          have HTk : Hid (tokV p (s.data.toList.drop p) = .ok (⟨4, bytes acc, p, (q : Int) + 1, 0⟩, j + 1 + 1)) := Lib.hid (by
            rw [HK.out, HY.out]
            simp only
            congr 3
            omega)
          have HS := Lib.hid (Tryd.Builder_String_any w1.heap.size w1.heap.size acc wr HBu.out hsz)
          have HPt := fun W (hW : Moved w B P m s (p : Int) ts W) => Lib.hid (put_moved hW hBw hts 4 ((q : Int) + 1) 0 (bytes acc))
          have HQ := Lib.hid hqj
          clear hcq hcq2 hUq HWB HY hqj
          go_wp2_with fail
          refine (HS.out).mono ?_
          rintro e w2 ⟨rfl, hb2⟩
          have HM2 := Lib.hid (HM1.out.below hBw (HB.out.trans hb2))
          have HP2 := HPt w2 HM2.out
          have eb : (⟨acc.toArray⟩ : ByteArray) = bytes acc := rfl
          try simp only [eb]
          go_wp2_with fail
          refine (HP2.out).mono ?_
          rintro e w3 ⟨rfl, hm⟩
          have HM3 := Lib.hid hm
          clear hm
          go_wp2
          go_ret
          refine Took.yes HTk.out ?_
          rw [show (p : Int) + ((j + 1 + 1 : Nat) : Int) = (q : Int) + 1 by have := HQ.out; omega]
          exact HM3.out
        · have h34b : ((m2 : Int) != 34) = true := by simp; omega
          have hq34 : s[q] ≠ 34 := by
            rw [hUq]
            intro h
            have := congrArg UInt8.toNat h
            simp at this
            omega
          have HPc : Hid (Calls Tryd.prog 55 #[.pointer (some ⟨P, 0, none⟩), .int .i64 (q : Int)] wr (PieceIs (s.data.toList.drop q) p wr)) := Lib.hid (by
            obtain ⟨tvr, hsc, -, -⟩ := HMr.out
            exact piece_any B P m s p q ts hs hlt wr tvr hsc)
          have HStep : Hid (∀ (b : UInt8) (k : Nat), pieceV (s.data.toList.drop q) = some (b, k) → BodyAt s.data.toList p (j + k) (acc ++ [b]) ∧ 1 ≤ k ∧ q + k ≤ s.size) := Lib.hid (fun b k hv => by
            refine ⟨HA.out.step hcq2 hq34 (by rw [← hqj]; exact hv), (piece_len hv).1, ?_⟩
            have := (piece_len hv).2
            simp at this
            omega)
          have HNo : Hid (pieceV (s.data.toList.drop q) = none → tokV p (s.data.toList.drop p) = .error 52) := Lib.hid (fun hv => by
            rw [HK.out, HA.out.no (by rw [← hqj]; exact body_none hcq hq34 hv)])
          have HQ := Lib.hid hqj
          clear hcq hcq2 hUq hq34 HA hqj
          go_wp2_with fail
          refine (HPc.out).mono ?_
          rintro e w2 (⟨b, k, hv, rfl, hb⟩ | ⟨hv, rfl, hb⟩)
          · have HB2 := Lib.hid (builder_below HBu.out hb)
            obtain ⟨hst, hk1, hk2⟩ := HStep.out b k hv
            have HA2 := Lib.hid hst
            have HBw := HWB (Lib.byteCells acc) (b.toNat : Int) w2 HB2.out (by simp [Lib.byteCells]; omega) (Nat.le_trans hsz hb.size)
            have HBb := Lib.hid (HB.out.trans (hb.mono hsz))
            clear hst hb hv HStep HNo
            go_wp2_with fail
            refine (HBw.out).mono ?_
            rintro e w3 ⟨rfl, hb3, hB3⟩
            have HB3 : Hid (Lib.IsBuilder 51 5 w1.heap.size w1.heap.size (Lib.byteCells (acc ++ [b])) w3) := Lib.hid (by
              have : Lib.byteCells (acc ++ [b]) = Lib.byteCells acc ++ [.int .u8 (b.toNat : Int)] := by simp [Lib.byteCells]
              rw [this]
              exact .inr hb3)
            have HBc := Lib.hid (HBb.out.trans hB3)
            clear hb3 hB3
            go_wp2
            go_roundw
            case rel => exact ⟨q + k, j + k, _, by go_num, by have := HQ.out; omega, by omega, by simp; omega, HBc.out, HB3, HA2⟩
            case measure => simp [intOf]; omega
          · have HT := Lib.hid (HNo.out hv)
            have HF := Lib.hid (HMr.out.below hBw (hb.mono (by omega)))
            go_wp2
            exact ⟨rfl, Took.err HT.out (by
              obtain ⟨_, _, _, h3⟩ := HF.out
              exact h3)⟩
      · have hqs : q = s.size := by omega
        have HT : Hid (tokV p (s.data.toList.drop p) = .error 52) := Lib.hid (by
          rw [HK.out, HA.out.no (by rw [← hqj, hqs]; rw [List.drop_eq_nil_of_le (by simp)]; rfl)])
        have hlt2 : ¬ (q : Int) < (s.size : Int) := by omega
        have hge : (s.size : Int) ≤ (q : Int) := by omega
        clear hqs hqj
        go_wp2
        exact ⟨rfl, Took.err HT.out (by
          obtain ⟨_, _, _, h3⟩ := HMr.out
          exact h3)⟩
  · have h34b : ((n : Int) != 34) = true := by simp; omega
    simp only [h34, decide_false]
    clear hk hU h
    go_enter Tryd.func38, Tryd.ntmps38
    go_wp2
    go_quiet (fail)
    have HM1 := Lib.hid (HM.out.drewN nq)
    generalize World.drewN _ nq = w1 at HM1 ⊢
    go_wp2
    go_ret
    exact Took.no HM1.out
end LexD
end Go.Proofs.YthlclmjcdpffbaaDoor
