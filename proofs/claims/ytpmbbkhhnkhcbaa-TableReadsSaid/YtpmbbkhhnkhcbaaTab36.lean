/- Both tables through calls: what the laws need. -/
import Derived.Test.YtpmbbkhhnkhcbaaTab35
import Derived.Test.YtpmbbkhhnkhcbaaTab10
namespace Go.Proofs.Ytpmbbkhhnkhcbaa
open Go.RowKit ObjM Go.Maps
namespace TabD
open LabelM LabelD ValD

theorem act_any (w w0 : World) (B T R lab N : Nat) (fs : List Fd) (ss : List St) (O : List Nat) (hb : Both w B T R lab N fs ss O) (a : ActT) (sv : Value) (hok : ActOk a) (hw0 : w0.heap.size ≤ B) (hbw : Below B w0 w) (hst : StsAt w0 sv a.st) (hN : N + (10 + a.st.length) ≤ 100000) :
    Calls Try.prog 13 #[.pointer (some ⟨T, 0, none⟩), .pointer (some ⟨R, 0, none⟩), .agg (a.cells sv).toArray] w (ActDid w B T R lab (N + (10 + a.st.length)) (actF lab fs ss a) O) := by
  obtain ⟨asl, acp, rfl, hrow⟩ := hst
  obtain ⟨d, c, ⟨kk, kn, ks, kl⟩, ⟨xk, xn, xs, xl⟩, nn, st⟩ := a
  by_cases h0 : d = 0
  · exact act_put w B T R lab N fs ss O hb d kk kn xk xn nn c kl xl ks xs st asl acp hok hN h0
  by_cases h1 : d = 1
  · exact act_get w B T R lab N fs ss O hb d kk kn xk xn nn c kl xl ks xs st asl acp hok hN h1
  by_cases h2 : d = 2
  · exact act_key w B T R lab N fs ss O hb d kk kn xk xn nn c kl xl ks xs st asl acp hok hN h2
  refine act_stamp w B T R lab N fs ss O hb d kk kn xk xn nn c kl xl ks xs st asl acp hok ?_ hN h0 h1 h2
  rcases hrow with h | ⟨g, o, q1, q2, q3⟩
  · exact .inl h
  · have hg : g < B := by omega
    exact .inr ⟨g, o, q1, hg, fun i s hs => ⟨(hbw.cell (p := ⟨g, _, none⟩) hg).trans (q3 i s hs).1, (hbw.cell (p := ⟨g, _, none⟩) hg).trans (q3 i s hs).2⟩⟩
theorem both_new (W : World) (own : Nat) (ho : own < M64) :
    Both ((W.alloc (.cells #[.int .u64 (own : Int), .slice none 0 0, .map none, .slice none 0 0, .map none] 66)).alloc (.cells #[.int .u64 (own : Int), .slice none 0 0, .slice none 0 0] 33)) W.heap.size W.heap.size (W.heap.size + 1) own 0 [] [] [W.heap.size, W.heap.size + 1] := by
  have hT := (Has.new W 66 [.int .u64 (own : Int), .slice none 0 0, .map none, .slice none 0 0, .map none]).keepsT ((KeepsT.refl [] _).alloc (.cells #[.int .u64 (own : Int), .slice none 0 0, .slice none 0 0] 33)) (by simp)
  have hR := Has.new (W.alloc (.cells #[.int .u64 (own : Int), .slice none 0 0, .map none, .slice none 0 0, .map none] 66)) 33 [.int .u64 (own : Int), .slice none 0 0, .slice none 0 0]
  simp only [World.size_alloc] at hR
  exact ⟨.slice none 0 0, none, .slice none 0 0, none, .slice none 0 0, .slice none 0 0, ⟨isT_new hT _ (Nat.le_refl _) ho, ⟨World.ownsRow_nil _ _ _ _, fun _ => rfl, by simp, by simp, by omega⟩, by simp⟩, ⟨⟨hR, World.ownsRow_nil _ _ _ _, ho, by simp, by simp⟩, World.ownsRow_nil _ _ _ _, by simp, by simp⟩, by simp [Value.ownBlock], by omega, by simp [ND], by simp, by omega, rfl, by simp; omega⟩
/-- One call's cells where it lies. -/
theorem ActsT.at {w0 wr : World} {B : Nat} {av : Option Addr} {cap : Nat} {la : List ActT} (h : ActsT w0 (.slice av la.length cap) la) (hw0 : w0.heap.size ≤ B) (hb : Below B w0 wr) {k : Nat} {a : ActT} (hk : la[k]? = some a) :
    ∃ b o sv, av = some ⟨b, o, none⟩ ∧ b < wr.heap.size ∧ StsAt w0 sv a.st ∧ ∀ (j : Nat) u, (a.cells sv)[j]? = some u → wr.cell? ⟨b, o + k * 12 + j, none⟩ = some u := by
  obtain ⟨av', cap', e, _, h1⟩ := h
  injection e with e1 e2 e3
  subst e1
  have hlt := (List.getElem?_eq_some_iff.1 hk).1
  rcases h1 with h1 | ⟨b, o, q1, q2, q3⟩
  · rw [h1] at hlt
    simp at hlt
  · obtain ⟨sv, p1, p2⟩ := q3 k a hk
    exact ⟨b, o, sv, q1, Nat.lt_of_lt_of_le q2 hb.size, p1, fun j u hu => (hb.cell (p := ⟨b, _, none⟩) (show b < B by omega)).trans (p2 j u hu)⟩
theorem ActsT.shape {w : World} {v : Value} {la : List ActT} (h : ActsT w v la) : ∃ av cap, v = .slice av la.length cap ∧ la.length ≤ 9223372036854775807 := by
  obtain ⟨av, cap, rfl, h0, _⟩ := h
  exact ⟨av, cap, rfl, h0⟩
theorem costA_take {la : List ActT} {k : Nat} {a : ActT} (hk : la[k]? = some a) : costA (la.take (k + 1)) = costA (la.take k) + (10 + a.st.length) := by
  rw [List.take_add_one, hk]
  exact costA_snoc _ _
theorem costA_le (la : List ActT) (k : Nat) : costA (la.take k) ≤ costA la := by
  unfold costA
  conv => rhs; rw [← List.take_append_drop k la, List.map_append, List.sum_append]
  omega
/-- A call alone, as a list of one. -/
theorem acts_one {w : World} {P : Nat} {a : ActT} {sv : Value} {w0 : World} {B : Nat} (hP : Has w P 37 (a.cells sv)) (hst : StsAt w0 sv a.st) (hw0 : w0.heap.size ≤ B) (hb : Below B w0 w) : ActsT w (.slice (some ⟨P, 0, none⟩) 1 1) [a] := by
  refine ⟨_, 1, rfl, by simp, .inr ⟨P, 0, rfl, hP.lt, fun i b hi => ?_⟩⟩
  have hi0 : i = 0 := by
    have := (List.getElem?_eq_some_iff.1 hi).1
    simp at this
    omega
  subst hi0
  have : a = b := by simpa using hi
  subst this
  refine ⟨sv, hst.below hw0 hb, fun j u hu => ?_⟩
  rw [Nat.zero_mul, Nat.zero_add]
  have := hP.cell j
  rw [hu] at this
  simpa using this
theorem or_4 (v c k o : Nat) : (v ||| (c ||| k)) ||| (k ||| o) = v ||| ((k ||| o) ||| (c ||| v)) := by
  apply Nat.eq_of_testBit_eq
  intro i
  simp only [Nat.testBit_or]
  cases v.testBit i <;> cases c.testBit i <;> cases k.testBit i <;> cases o.testBit i <;> rfl
theorem same_self (k : V) (l : Nat) : sameB { k with l := l } k = true := by simp [sameB]
theorem put_ok {lab : Nat} {fs fs1 : List Fd} {ss : List St} {c : Nat} {key v : V} (h : putF lab fs ss c key v = (0, fs1)) : valOf fs1 key = v.with (c ||| key.l) := by
  unfold putF at h
  split at h
  · injection h with h1; exact absurd h1 (by decide)
  · rename_i hk
    have hk : keyB key = true := by simpa using hk
    split at h
    · injection h with h1; exact absurd h1 (by decide)
    · split at h
      · rename_i hp
        split at h
        · injection h with h1 h2
          subst h2
          have e : placeOf (fs ++ [({ key with l := 0 }, v.with (c ||| key.l))]) key = some fs.length := by
            rw [placeOf_snoc, hp]
            show (if sameB { key with l := 0 } key = true then some fs.length else none) = _
            rw [if_pos (same_self key 0)]
          unfold valOf
          rw [if_pos hk, e]
          simp
        · injection h with h1; exact absurd h1 (by decide)
      · rename_i i hp
        split at h
        · injection h with h1; exact absurd h1 (by decide)
        · rename_i f hf
          split at h
          · injection h with h1 h2
            subst h2
            have hi := (List.getElem?_eq_some_iff.1 hf).1
            unfold valOf
            rw [if_pos hk, placeOf_set fs i f hf, hp]
            simp [hi]
          · injection h with h1; exact absurd h1 (by decide)
theorem put_er {lab : Nat} {fs : List Fd} {ss : List St} {c : Nat} {key v : V} : (putF lab fs ss c key v).1 = 0 ∨ ((putF lab fs ss c key v).1 ≠ 0 ∧ (putF lab fs ss c key v).2 = fs) := by
  unfold putF
  split
  · exact .inr ⟨(by decide : (41 : Int) ≠ 0), rfl⟩
  · split
    · exact .inr ⟨(by decide : (42 : Int) ≠ 0), rfl⟩
    · split
      · split
        · exact .inl rfl
        · exact .inr ⟨(by decide : (40 : Int) ≠ 0), rfl⟩
      · split
        · exact .inr ⟨(by decide : (40 : Int) ≠ 0), rfl⟩
        · split
          · exact .inl rfl
          · exact .inr ⟨(by decide : (40 : Int) ≠ 0), rfl⟩
theorem flows_or (a b : Nat) : flowsB a (b ||| a) = true := by
  unfold flowsB
  rw [beq_iff_eq]
  apply Nat.eq_of_testBit_eq
  intro i
  simp only [Nat.testBit_and, Nat.testBit_or]
  cases a.testBit i <;> cases b.testBit i <;> rfl
end TabD
end Go.Proofs.Ytpmbbkhhnkhcbaa
