/- What a tree is: the document's words and the program's come to the same. -/
import Derived.Test.YtakdmlaecidjaaaGreatDoorTck15
import Derived.Test.YtakdmlaecidjaaaGreatDoorTck11
import Derived.Maps.AppendAt
namespace Go.Proofs.YtakdmlaecidjaaaGreatDoor
open Go.RowKit ObjM
namespace TreeD

noncomputable def rownB (l : List Nd) (x : Nd) : Bool := decide (0 ≤ x.pos) && (rfitB x.kind (kindsOf l x.kids) && (rtextB x && rextraB l x))
theorem byte_dig : ∀ b : UInt8, (NumM.numV [b]).2 = true → 48 ≤ b.toNat := by
  intro b h
  unfold NumM.numV NumM.decV NumM.decF at h
  have hp : Lib.hasPrefix [b] [48, 120] = false := by
    unfold Lib.hasPrefix
    show (([48, 120] : List UInt8).isPrefixOf [b]) = false
    rw [List.isPrefixOf_cons_cons]
    exact Bool.and_false _
  rw [if_neg (by rw [hp]; decide), if_neg (by simp)] at h
  rcases Nat.lt_or_ge b.toNat 48 with h1 | h1
  · exfalso
    have hd : NumM.digV (b.toNat : Int) = 16 := by
      unfold NumM.digV
      rw [if_neg (by omega), if_neg (by omega), if_neg (by omega)]
    rw [hd, if_pos (.inl (by omega))] at h
    cases h
  · exact h1
theorem arg_same {l : List Nd} {x : Nd} {i : Nat} (hi : i ≤ l.length) (hD : Done l i) (hk : ∀ k ∈ x.kids, 0 ≤ k ∧ k < (i : Int)) : (decide (0 ≤ builtinV x.text) && argsB l x) = (decide (builtinV x.text = (x.kids.length : Int)) && rargsB l x) := by
  by_cases he : builtinV x.text = (x.kids.length : Int)
  · have h0 : 0 ≤ builtinV x.text := by omega
    rw [decide_eq_true h0, decide_eq_true he, Bool.true_and, Bool.true_and]
    unfold argsB rargsB
    rw [decide_eq_true he.symm, Bool.true_and]
    by_cases hm : memB [READ, WRITE] x.text = true
    · rw [if_pos hm, if_pos hm]
      have hpos : 0 < x.kids.length := by
        rcases (by simpa using (memB_iff _ _).1 hm : x.text = READ ∨ x.text = WRITE) with h | h
        · rw [h] at he
          have : builtinV READ = 1 := by decide +kernel
          omega
        · rw [h] at he
          have : builtinV WRITE = 2 := by decide +kernel
          omega
      obtain ⟨k, r, hks⟩ : ∃ k r, x.kids = k :: r := by
        cases hxk : x.kids with
        | nil => rw [hxk] at hpos; simp at hpos
        | cons a r => exact ⟨a, r, rfl⟩
      have hkk := hk k (by rw [hks]; simp)
      rw [hks]
      simp only [List.getD_cons_zero]
      unfold firstB digitB
      by_cases hk15 : kindAt l k = 15
      · rw [decide_eq_true hk15, Bool.true_and, Bool.true_and]
        by_cases hs : (ndAt l k).text.size = 1
        · rw [decide_eq_true hs, Bool.true_and, Bool.true_and]
          obtain ⟨q, rfl⟩ : ∃ q : Nat, k = (q : Int) := ⟨k.toNat, by omega⟩
          have hq : q < l.length := by omega
          have hg := (hD q l[q] (by omega) (List.getElem?_eq_getElem hq)).text
          rw [kindAt_q hq] at hk15
          rw [ndAt_q hq] at hs ⊢
          unfold textB at hg
          rw [if_neg (by omega), if_neg (by omega), if_neg (by omega), if_neg (by omega), if_pos hk15] at hg
          unfold intB at hg
          have hn := (Bool.and_eq_true _ _ ▸ hg : _ ∧ _).1
          have hlen : l[q].text.data.toList.length = 1 := by rw [Array.length_toList]; exact hs
          obtain ⟨b, hb⟩ : ∃ b, l[q].text.data.toList = [b] := by
            cases hL : l[q].text.data.toList with
            | nil => rw [hL] at hlen; simp at hlen
            | cons a r =>
              rw [hL] at hlen
              cases r with
              | nil => exact ⟨a, rfl⟩
              | cons c r => simp at hlen
          rw [hb] at hn
          have := byte_dig b hn
          have hby : byteAt l[q].text 0 = b.toNat := by unfold byteAt; rw [hb]; rfl
          rw [hby, decide_eq_true this, Bool.true_and]
        · rw [decide_eq_false hs]; rfl
      · rw [decide_eq_false hk15]; rfl
    · rw [if_neg hm, if_neg hm]
  · have h1 : argsB l x = false := arg_len fun e => he e.symm
    rw [h1, decide_eq_false he]
    simp
theorem rest_same {l : List Nd} {x : Nd} {i : Nat} (hi : i ≤ l.length) (hD : Done l i) (hk : ∀ k ∈ x.kids, 0 ≤ k ∧ k < (i : Int)) : (textB x && restB l x) = (rtextB x && rextraB l x) := by
  by_cases h21 : x.kind = 21
  · have e1 : textB x = decide (0 ≤ builtinV x.text) := by
      unfold textB
      rw [if_neg (by omega), if_neg (by omega), if_neg (by omega), if_neg (by omega), if_neg (by omega), if_neg (by omega), if_pos h21]
    have e2 : restB l x = argsB l x := by
      unfold restB
      rw [if_neg (by omega), if_neg (by omega), if_neg (by omega), if_pos h21]
    have e3 : rtextB x = decide (builtinV x.text = (x.kids.length : Int)) := by
      unfold rtextB
      rw [if_pos h21]
    have e4 : rextraB l x = rargsB l x := by
      unfold rextraB
      rw [if_neg (by omega), if_neg (by omega), if_pos h21]
    rw [e1, e2, e3, e4]
    exact arg_same hi hD hk
  · have e3 : rtextB x = textB x := by
      unfold rtextB
      rw [if_neg h21]
    have e4 : rextraB l x = restB l x := by
      unfold rextraB restB
      by_cases h3 : x.kind = 3
      · rw [if_pos h3, if_neg (by omega), if_pos h3]
      rw [if_neg h3]
      by_cases h1 : x.kind = 1
      · rw [if_pos h1, if_neg (by omega), if_neg (by omega), if_neg (by omega), if_pos h1]
      rw [if_neg h1, if_neg h1, if_neg h3, if_neg h21, if_neg h21]
    rw [e3, e4]
theorem own_same {l : List Nd} {x : Nd} {i : Nat} (hi : i ≤ l.length) (hD : Done l i) (hk : ∀ k ∈ x.kids, 0 ≤ k ∧ k < (i : Int)) : ownB l x = rownB l x := by
  unfold ownB rownB
  by_cases hr : 1 ≤ x.kind ∧ x.kind ≤ 36
  · rw [decide_eq_true hr.1, decide_eq_true hr.2, Bool.true_and, Bool.true_and, fit_same _ hr.1 hr.2, rest_same hi hD hk]
  · have hf : rfitB x.kind (kindsOf l x.kids) = false := by
      cases hb : rfitB x.kind (kindsOf l x.kids)
      · rfl
      · exact absurd (rfit_kind hb) hr
    rw [hf]
    simp only [Bool.false_and, Bool.and_false]
    by_cases h1 : 1 ≤ x.kind
    · have h2 : ¬ x.kind ≤ 36 := fun e => hr ⟨h1, e⟩
      rw [decide_eq_false h2]
      simp
    · rw [decide_eq_false h1]
      simp
/-- What the document asks of the whole, from a node on. -/
def rwholeFrom (l : List Nd) (u : List Bool) (k : Nat) : Bool := (List.range' k (l.length - k)).all fun n => (decide (kindAt l n = 1) == decide (n = l.length - 1)) && !(u.getD n false == decide (n = l.length - 1))
theorem rwhole_step {l : List Nd} {u : List Bool} {k : Nat} (h : k < l.length) : rwholeFrom l u k = (((decide (kindAt l k = 1) == decide (k = l.length - 1)) && !(u.getD k false == decide (k = l.length - 1))) && rwholeFrom l u (k + 1)) := by
  unfold rwholeFrom
  obtain ⟨m, hm⟩ : ∃ m, l.length - k = m + 1 := ⟨l.length - k - 1, by omega⟩
  have hm2 : l.length - (k + 1) = m := by omega
  rw [hm, hm2]
  rfl
theorem rwhole_end {l : List Nd} {u : List Bool} {k : Nat} (h : ¬ k < l.length) : rwholeFrom l u k = true := by
  unfold rwholeFrom
  have : l.length - k = 0 := by omega
  rw [this]
  rfl
theorem rwhole_same {l : List Nd} {u : List Bool} (h0 : 0 < l.length) (hu : u.getD (l.length - 1) false = false) : rwholeFrom l u 0 = wholeB l u := by
  have hk : kindAt l ((l.length : Int) - 1) = kindAt l ((l.length - 1 : Nat) : Int) := by
    congr 1
    omega
  rw [Bool.eq_iff_iff]
  unfold rwholeFrom wholeB
  rw [hk]
  simp only [List.all_eq_true, List.mem_range'_1, List.mem_range, Bool.and_eq_true, decide_eq_true_eq, Bool.not_eq_true', beq_iff_eq, beq_eq_false_iff_ne, ne_eq, decide_eq_false_iff_not]
  constructor
  · intro h
    refine ⟨?_, ?_⟩
    · have := (h (l.length - 1) ⟨by omega, by omega⟩).1
      simpa using this
    · intro n hn
      have h2 := h n ⟨by omega, by omega⟩
      have hne : ¬ n = l.length - 1 := by omega
      rw [decide_eq_false hne] at h2
      exact ⟨by simpa using h2.2, by simpa using h2.1⟩
  · rintro ⟨h1, h2⟩ n ⟨-, hn⟩
    by_cases he : n = l.length - 1
    · subst he
      rw [decide_eq_true rfl, hu, decide_eq_true h1]
      simp
    · have h3 := h2 n (by omega)
      rw [decide_eq_false he, decide_eq_false h3.2, h3.1]
      simp
/-- The last node is no kid. -/
theorem take_last {n m : Nat} (hm : n ≤ m) : ∀ {ks : List Int} {u u' : List Bool}, takeKids n ks u = some u' → u'.getD m false = u.getD m false
  | [], u, u', h => by injection h with h; rw [h]
  | k :: r, u, u', h => by
    unfold takeKids at h
    split at h
    · rename_i hc
      rw [take_last hm h]
      have : k.toNat ≠ m := by omega
      simp only [List.getD_eq_getElem?_getD]
      rw [List.getElem?_set_ne this]
    · cases h
theorem go_last {l : List Nd} {m : Nat} : ∀ (r : List Nd) {i : Nat} {u u' : List Bool}, i + r.length ≤ m + 1 → goV l i r u = .inr u' → u'.getD m false = u.getD m false
  | [], i, u, u', _, h => by injection h with h; rw [h]
  | x :: r, i, u, u', hm, h => by
    unfold goV at h
    simp only [List.length_cons] at hm
    split at h
    · cases h
    · rename_i v hv
      rw [go_last r (by omega) h]
      exact take_last (by omega) (step_good hv).2
end TreeD
end Go.Proofs.YtakdmlaecidjaaaGreatDoor

namespace Go.Proofs.YtakdmlaecidjaaaGreatDoor
open Go.RowKit ObjM
namespace TreeD

theorem at_add (g k : Nat) : (⟨g, 0, none⟩ : Addr).add k = ⟨g, k, none⟩ := by
  simp [Addr.add]
  intro h
  exact h.symm
theorem wpList_append_run {P : Program} {ops : Array Oper} {o : Oper} {rest : List Oper} {a : Act} {w : World} {Q : Exit → Act → World → Prop} (hw : Region.wanted o (yielded ops a.tmps) = true)
    (s x : Operand) (t : TypeId) (hop : o.op = Op.call { callee := Callee.builtin Builtin.append, args := #[s, x], argTypes := #[t, t] }) (v' : Value) (w' : World) (v u : Value) (hs : a.eval s = v) (hx : a.eval x = u)
    (hrun : (Builtin.append_ #[t, t] o.type #[v, u]).run P w = .ok v' w') (hK : wpList P ops Q rest (a.put o.dst v') w') : wpList P ops Q (o :: rest) a w := by
  unfold wpList
  rw [if_pos hw]
  refine .inl ?_
  subst hs hx
  unfold Oper.wp
  simp [execOp, hop, resolve, invoke, builtin, hrun, Result.andThen]
  exact hK
theorem infoIntT : (Tryz.prog.info? 3).map (fun i => (i.zero, i.size, i.bytes)) = some (some (.int .i64 0), 1, 8) := by kernel_rfl
set_option maxRecDepth 100000 in
/-- A number is put behind a row of numbers. -/
theorem app_int (ty : TypeId) {W : World} {B : Nat} {v : Value} {zs : List Int} (z : Int) (h : W.ownsRow B 3 1 v zs.length (zs.map (Value.int .i64))) (hn : zs.length ≤ 1000000) (hB : B ≤ W.heap.size) (ad c0 : Nat) (hc : W.cell? ⟨ad, 0, none⟩ = some (.int .i64 z)) :
    ∃ v2 W2, (Builtin.append_ #[30, 30] ty #[v, .slice (some ⟨ad, 0, none⟩) 1 c0]).run Tryz.prog W = .ok v2 W2 ∧ W2.ownsRow B 3 1 v2 (zs ++ [z]).length ((zs ++ [z]).map (Value.int .i64)) ∧ W.grownBy W2 v.ownBlock := by
  obtain ⟨i0, hi, hz0, hz1, hz2⟩ := info_parts infoIntT
  obtain ⟨v2, w5, hrun, ho, hk5, -, -⟩ := run_append_own_at (P := Tryz.prog) (w := W) B 30 ty 3 i0 (.int .i64 0) 1 8 Tryz.underlying30 hi hz0 hz1 hz2 rfl (by decide) v _ _ h ⟨ad, 0, none⟩ 1 c0 [.int .i64 z] rfl
    (fun k u hk => by
      have hk1 := (List.getElem?_eq_some_iff.1 hk).1
      simp at hk1
      subst hk1
      simp at hk
      subst hk
      rw [at_add]
      exact hc)
    (fun u hu => by simp at hu; rw [hu]; rfl) (by unfold maxLen; omega) (by omega) hB
  exact ⟨v2, w5, hrun, by simpa using ho, hk5⟩
/-- Numbers that are one's own are numbers in memory. -/
theorem own_kids {W : World} {B : Nat} {v : Value} {zs : List Int} (h : W.ownsRow B 3 1 v zs.length (zs.map (Value.int .i64))) : KidsAt W v zs := by
  rcases own_shape h with ⟨h1, h2, h3⟩ | ⟨g, cap, cs, h1, -, h3, -, -, -, -⟩
  · have : zs = [] := List.eq_nil_of_length_eq_zero h2
    subst this
    exact ⟨none, 0, h1, .inl rfl⟩
  · subst h1
    refine ⟨_, cap, rfl, .inr ⟨g, 0, rfl, h3.lt, ?_⟩⟩
    intro i x hx
    have hi := (List.getElem?_eq_some_iff.1 hx).1
    have hc := own_cell h i (by simpa using hi)
    rw [Nat.zero_add, hc]
    have := (List.getElem?_eq_some_iff.1 hx).2
    simp [this]
/-- While kids are taken. -/
structure AtI (w wr : World) (D N : Nat) (nd : List Value) (v : List Bool) (sv : Value) (zs : List Int) : Prop where
  b : Below w.heap.size w wr
  d : Has wr D 4 (v.map Value.bool)
  n : Has wr N 35 nd
  o : wr.ownsRow w.heap.size 3 1 sv zs.length (zs.map (Value.int .i64))
  db : w.heap.size ≤ D
theorem AtI.push {w wr : World} {D N : Nat} {nd : List Value} {v : List Bool} {sv : Value} {zs : List Int} (h : AtI w wr D N nd v sv zs) (ty : TypeId) (q : Nat) (z : Int) (hn : zs.length ≤ 1000000) :
    ∃ v2 W2, (Builtin.append_ #[30, 30] ty #[sv, .slice (some ⟨wr.heap.size, 0, none⟩) 1 1]).run Tryz.prog ((wr.setCell ⟨D, q, none⟩ (.bool true)).alloc (.cells #[.int .i64 z] 3)) = .ok v2 W2 ∧ AtI w W2 D N nd (v.set q true) v2 (zs ++ [z]) := by
  have hsz : (wr.setCell ⟨D, q, none⟩ (.bool true)).heap.size = wr.heap.size := by simp [World.setCell]
  have hBw := h.b.size
  have hD := own_ne h.o h.d (by decide +kernel)
  have hDN : D ≠ N := h.d.ne h.n (by decide +kernel)
  have ho1 : (wr.setCell ⟨D, q, none⟩ (.bool true)).ownsRow w.heap.size 3 1 sv zs.length (zs.map (Value.int .i64)) := own_keeps h.o (Keeps.set _ D q _) (fun g hg => by simpa using hD g hg)
  have hd1 : Has (wr.setCell ⟨D, q, none⟩ (.bool true)) D 4 ((v.set q true).map Value.bool) := by
    rw [List.map_set]
    exact h.d.set q (.bool true)
  have hn1 : Has (wr.setCell ⟨D, q, none⟩ (.bool true)) N 35 nd := h.n.keeps (Keeps.set _ D q _) (by simpa using hDN.symm)
  have hb1 : Below w.heap.size w (wr.setCell ⟨D, q, none⟩ (.bool true)) := h.b.setCell (p := ⟨D, q, none⟩) h.db _
  have ho2 := ho1.alloc (.cells #[.int .i64 z] 3)
  have ka := Keeps.alloc [] (wr.setCell ⟨D, q, none⟩ (.bool true)) (.cells #[.int .i64 z] 3)
  have hd2 := hd1.keeps ka (by simp)
  have hn2 := hn1.keeps ka (by simp)
  have hb2 := hb1.alloc (by rw [hsz]; exact hBw) (.cells #[.int .i64 z] 3)
  have hc : ((wr.setCell ⟨D, q, none⟩ (.bool true)).alloc (.cells #[.int .i64 z] 3)).cell? ⟨wr.heap.size, 0, none⟩ = some (.int .i64 z) := by
    have := (Has.new (wr.setCell ⟨D, q, none⟩ (.bool true)) 3 [.int .i64 z]).cell 0
    rw [hsz] at this
    exact this
  obtain ⟨v2, W2, hrun, ho3, hg⟩ := app_int ty z ho2 hn (by simp [hsz]; omega) wr.heap.size 1 hc
  refine ⟨v2, W2, hrun, ?_, ?_, ?_, ho3, h.db⟩
  · exact hb2.grown hg (by simp [hsz]; omega) (fun g he => (own_lt ho2 g he).1)
  · exact hd2.keeps (Keeps.grown hg) (fun hm => (own_ne ho2 hd2 (by decide +kernel)) D (by simpa using hm) rfl)
  · exact hn2.keeps (Keeps.grown hg) (fun hm => (own_ne ho2 hn2 (by decide +kernel)) N (by simpa using hm) rfl)
theorem kinds_take {l : List Nd} {ks : List Int} {k : Nat} (hk : k < ks.length) : kindsOf l (ks.take (k + 1)) = kindsOf l (ks.take k) ++ [kindAt l ks[k]] := by
  unfold kindsOf
  rw [List.take_succ_eq_append_getElem hk, List.map_append]
  rfl
end TreeD
end Go.Proofs.YtakdmlaecidjaaaGreatDoor
