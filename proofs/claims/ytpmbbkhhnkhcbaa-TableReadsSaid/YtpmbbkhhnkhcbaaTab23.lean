/- What stamps come to, one by one; plain. -/
import Derived.Test.YtpmbbkhhnkhcbaaTab22
import Derived.Laws.Bits128
namespace Go.Proofs.Ytpmbbkhhnkhcbaa
open Go.RowKit ObjM Go.Maps
namespace TabD
open LabelM LabelD ValD

def andI (a b : Int) : Int := bits BinOp.and IntKind.i64 a b
def strKey (s : ByteArray) : V := ⟨3, 0, s, 0⟩
theorem strKey_ok (s : ByteArray) (hs : s.size ≤ 140737488355328) : VOk (strKey s) := ⟨by simp [strKey], by simp [strKey], hs, by simp [strKey, M64]⟩
theorem strKey_key (s : ByteArray) : keyB (strKey s) = true := by simp [keyB, strKey, checkB]
theorem andI_i64 (a b : Int) : -9223372036854775808 ≤ andI a b ∧ andI a b ≤ 9223372036854775807 := by
  have h : andI a b = IntKind.i64.wrap ((BitVec.ofInt 64 a &&& BitVec.ofInt 64 b).toNat : Nat) := rfl
  rw [h, IntKind.wrap_i64]
  omega
/-- What a stamp more makes of stamps. -/
def narrow (cur : List St) (s : St) : List St := match nameAt cur (key8 s.1) with | some n => cur.modify n (fun e => (e.1, andI e.2 s.2)) | none => cur ++ [(s.1, andI s.2 s.2)]
/-- The kind of what stands under a key. -/
def kindAt (fs : List Fd) (v : V) : Option Int := (placeOf fs v).bind fun i => (fs[i]?).map (·.2.k)
def stepS (fs : List Fd) (cur : List St) (s : St) : Option (List St) := (kindAt fs (strKey s.1)).bind fun kd => if fitB (narrow cur s) (key8 s.1) kd then some (narrow cur s) else none
def stampsRun (fs : List Fd) (ss l : List St) : Option (List St) := l.foldlM (stepS fs) ss
theorem stampsRun_snoc (fs : List Fd) (ss l : List St) (s : St) : stampsRun fs ss (l ++ [s]) = (stampsRun fs ss l).bind fun c => stepS fs c s := by
  unfold stampsRun
  rw [List.foldlM_append]
  simp
theorem stampsRun_none (fs : List Fd) (ss l m : List St) (h : stampsRun fs ss l = none) : stampsRun fs ss (l ++ m) = none := by
  unfold stampsRun at h ⊢
  rw [List.foldlM_append, h]
  rfl
theorem run_dead {fs : List Fd} {ss l : List St} {k : Nat} {s : St} {c : List St} (hk : l[k]? = some s) (hc : stampsRun fs ss (l.take k) = some c) (hs : stepS fs c s = none) : stampsRun fs ss l = none := by
  have h1 : l.take (k + 1) = l.take k ++ [s] := by rw [List.take_add_one, hk]; rfl
  have h2 : stampsRun fs ss (l.take (k + 1)) = none := by rw [h1, stampsRun_snoc, hc]; exact hs
  rw [← List.take_append_drop (k + 1) l]
  exact stampsRun_none _ _ _ _ h2
theorem run_step {fs : List Fd} {ss l : List St} {k : Nat} {s : St} {c c' : List St} (hk : l[k]? = some s) (hc : stampsRun fs ss (l.take k) = some c) (hs : stepS fs c s = some c') : stampsRun fs ss (l.take (k + 1)) = some c' := by
  have h1 : l.take (k + 1) = l.take k ++ [s] := by rw [List.take_add_one, hk]; rfl
  rw [h1, stampsRun_snoc, hc]
  exact hs
/-- The stamps of old, some narrower, and new ones. -/
def Ext (ss cur : List St) : Prop := ∃ a b, cur = a ++ b ∧ a.map (·.1) = ss.map (·.1) ∧ ∀ s ∈ b, nameAt ss (key8 s.1) = none
theorem nameAt_map (ss : List St) (k : List UInt8) : nameAt ss k = (ss.map (·.1)).findIdx? (fun x => key8 x == k) := by
  unfold nameAt
  rw [List.findIdx?_map]
  rfl
theorem nameAt_names {a b : List St} (h : a.map (·.1) = b.map (·.1)) (k : List UInt8) : nameAt a k = nameAt b k := by rw [nameAt_map, nameAt_map, h]
theorem Ext.refl (ss : List St) : Ext ss ss := ⟨ss, [], by simp, rfl, by simp⟩
theorem Ext.le {ss cur : List St} (h : Ext ss cur) : ss.length ≤ cur.length := by
  obtain ⟨a, b, rfl, h1, _⟩ := h
  have := congrArg List.length h1
  simp at this
  rw [List.length_append]
  omega
theorem names_set (c : List St) (n : Nat) (e : St) (he : c[n]? = some e) (y : Int) : (c.set n (e.1, y)).map (·.1) = c.map (·.1) := by
  rw [List.map_set]
  apply List.ext_getElem?
  intro i
  rw [List.getElem?_set]
  split
  · rename_i h
    subst h
    obtain ⟨hi, rfl⟩ := List.getElem?_eq_some_iff.1 he
    simp [hi]
  · rfl
theorem Ext.set {ss cur : List St} (h : Ext ss cur) (n : Nat) (e : St) (he : cur[n]? = some e) (y : Int) : Ext ss (cur.set n (e.1, y)) := by
  obtain ⟨a, b, rfl, h1, h2⟩ := h
  by_cases hn : n < a.length
  · rw [List.getElem?_append_left hn] at he
    rw [List.set_append_left _ _ hn]
    exact ⟨_, b, rfl, by rw [names_set a n e he y]; exact h1, h2⟩
  · rw [List.getElem?_append_right (by omega)] at he
    rw [List.set_append_right _ _ (by omega)]
    refine ⟨a, _, rfl, h1, fun s hs => ?_⟩
    rcases List.mem_or_eq_of_mem_set hs with h9 | h9
    · exact h2 s h9
    · rw [h9]
      exact h2 e (List.mem_of_getElem? he)
theorem Ext.snoc {ss cur : List St} (h : Ext ss cur) (s : St) (hs : nameAt cur (key8 s.1) = none) : Ext ss (cur ++ [s]) := by
  obtain ⟨a, b, rfl, h1, h2⟩ := h
  refine ⟨a, b ++ [s], by simp, h1, fun x hx => ?_⟩
  rcases List.mem_append.1 hx with h9 | h9
  · exact h2 x h9
  · have : x = s := by simpa using h9
    subst this
    rw [← nameAt_names h1]
    unfold nameAt at hs ⊢
    rw [List.findIdx?_append] at hs
    cases h3 : List.findIdx? (fun y => key8 y.1 == key8 x.1) a with
    | none => rfl
    | some i => rw [h3] at hs; simp at hs
theorem Ext.back {ss cur : List St} (h : Ext ss cur) (k : List UInt8) : dels (nameAt cur) ((cur.drop ss.length).map fun s => key8 s.1) k = nameAt ss k := by
  obtain ⟨a, b, rfl, h1, h2⟩ := h
  have hl : a.length = ss.length := by have := congrArg List.length h1; simpa using this
  rw [← hl, List.drop_left]
  unfold dels
  split
  · rename_i hx
    obtain ⟨s, hs, rfl⟩ := List.mem_map.1 hx
    exact (h2 s hs).symm
  · rename_i hx
    rw [← nameAt_names h1]
    unfold nameAt
    rw [List.findIdx?_append]
    have : b.findIdx? (fun x => key8 x.1 == k) = none := by
      rw [List.findIdx?_eq_none_iff]
      intro x hx2
      simp
      rintro rfl
      exact hx (List.mem_map.2 ⟨x, hx2, rfl⟩)
    rw [this]
    simp
theorem drop_row {W : World} {base n m cap : Nat} {a : Option Addr} {cur : List St} (h : W.ownsRow base 44 2 (.slice a m cap) cur.length (rowS cur)) {av : Option Addr} (hav : av = if cap = n then a else a.map (·.add (n * 2))) :
    cur.drop n = [] ∨ ∃ g o cs, av = some ⟨g, o, none⟩ ∧ Has W g 44 cs ∧ ∀ i s, (cur.drop n)[i]? = some s → cs[o + i * 2]? = some (.string s.1) ∧ cs[o + i * 2 + 1]? = some (.int .i64 s.2) := by
  by_cases hz : cur.drop n = []
  · exact .inl hz
  · have hlt : n < cur.length := by
      apply Nat.lt_of_not_le
      intro h9
      exact hz (List.drop_eq_nil_of_le h9)
    rcases own_shape h with ⟨h1, h2, _⟩ | ⟨g, cap', cs, h1, hb, hh, hnc, hcm, hcl, ht⟩
    · omega
    · injection h1 with h2 h3 h4
      subst h2 h4
      refine .inr ⟨g, n * 2, cs, ?_, hh, fun i s hs => ?_⟩
      · rw [hav, if_neg (by omega)]
        simp [Addr.add]
        omega
      · rw [List.getElem?_drop] at hs
        obtain ⟨q1, q2⟩ := rowS_at cur (n + i) s hs
        rw [← ht] at q1 q2
        rw [List.getElem?_take] at q1 q2
        have e1 : n * 2 + i * 2 = (n + i) * 2 := by omega
        rw [e1]
        split at q1
        · split at q2
          · exact ⟨q1, q2⟩
          · cases q2
        · cases q1
theorem rowS_set (c : List St) (n : Nat) (e : St) (he : c[n]? = some e) (y : Int) : (rowS c).set (n * 2 + 1) (.int .i64 y) = rowS (c.set n (e.1, y)) := by
  induction c generalizing n with
  | nil => simp at he
  | cons a r ih =>
    cases n with
    | zero =>
      simp at he
      subst he
      simp [rowS]
    | succ n =>
      have h1 := ih n (by simpa using he)
      have e1 : (n + 1) * 2 + 1 = (n * 2 + 1) + 1 + 1 := by omega
      rw [e1]
      simp only [rowS, List.flatMap_cons, List.set_cons_succ] at h1 ⊢
      simp [h1]
/-- A stamp's kinds stored. -/
theorem own_kinds {w : World} {B g cap : Nat} {c : List St} {n : Nat} {e : St} (y : Int) (h : w.ownsRow B 44 2 (.slice (some ⟨g, 0, none⟩) c.length cap) c.length (rowS c)) (he : c[n]? = some e) :
    ∃ cs, Has w g 44 cs ∧ B ≤ g ∧ cs[n * 2 + 1]? = some (.int .i64 e.2) ∧ (w.setCell ⟨g, n * 2 + 1, none⟩ (.int .i64 y)).ownsRow B 44 2 (.slice (some ⟨g, 0, none⟩) c.length cap) (c.set n (e.1, y)).length (rowS (c.set n (e.1, y))) := by
  have hi : n < c.length := (List.getElem?_eq_some_iff.1 he).1
  have hc1 := own_cell h (n * 2 + 1) (by rw [rowS_len]; omega)
  rcases own_shape h with ⟨h1, _⟩ | ⟨g', cap', cs, h1, hb, hh, hn, hc, hl, ht⟩
  · cases h1
  · injection h1 with h2 h3 h4
    injection h2 with h2
    injection h2 with h5
    subst h5 h4
    refine ⟨cs, hh, hb, ?_, ?_⟩
    · rw [hh.cell] at hc1
      rw [hc1, ← List.getElem?_eq_getElem]
      exact (rowS_at c n e he).2
    · rw [List.length_set]
      refine own_of hb (hh.set _ _) hn hc (by simpa using hl) ?_
      rw [List.take_set, ht]
      exact rowS_set c n e he y
theorem modify_set (c : List St) (n : Nat) (e : St) (he : c[n]? = some e) (f : St → St) : c.modify n f = c.set n (f e) := by
  apply List.ext_getElem?
  intro i
  rw [List.getElem?_modify, List.getElem?_set]
  split
  · rename_i h
    subst h
    obtain ⟨hi, rfl⟩ := List.getElem?_eq_some_iff.1 he
    simp [hi]
  · simp
theorem narrow_some {c : List St} {s e : St} {n : Nat} (hn : nameAt c (key8 s.1) = some n) (he : c[n]? = some e) : narrow c s = c.set n (e.1, andI e.2 s.2) := by
  unfold narrow
  rw [hn]
  exact modify_set c n e he _
theorem narrow_none {c : List St} {s : St} (hn : nameAt c (key8 s.1) = none) : narrow c s = (c ++ [s]).set c.length (s.1, andI s.2 s.2) := by
  unfold narrow
  rw [hn]
  simp
theorem fitB_set {c : List St} {k : List UInt8} {n : Nat} {e : St} {y kd : Int} (hn : nameAt c k = some n) (he : c[n]? = some e) : fitB (c.set n (e.1, y)) k kd = mayB y kd := by
  have hi : n < c.length := (List.getElem?_eq_some_iff.1 he).1
  exact fitB_some (i := n) (e := (e.1, y)) (by rw [nameAt_set c n e he]; exact hn) (by simp [hi])
end TabD
end Go.Proofs.Ytpmbbkhhnkhcbaa
