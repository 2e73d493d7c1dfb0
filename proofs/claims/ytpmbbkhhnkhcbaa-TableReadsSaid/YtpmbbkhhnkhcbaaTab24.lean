/- Stamping a table. -/
import Derived.Test.YtpmbbkhhnkhcbaaTab23
namespace Go.Proofs.Ytpmbbkhhnkhcbaa
open Go.RowKit ObjM Go.Maps
namespace TabD
open LabelM LabelD ValD

theorem name_any (B T N : Nat) (nm : Option Nat) (a1 a2 a3 a4 : Value) (f : List UInt8 → Option Nat) (s : ByteArray) (hs : s.size ≤ 140737488355328) (n : Nat) (hn : n ≤ 1000000) (hN : N < 1000000) (w : World) (hB : B ≤ w.heap.size) (hT : Has w T 66 [a1, a2, a3, a4, .map nm]) (h : NamedOk w B nm N f) :
    Calls Try.prog 40 #[.pointer (some ⟨T, 0, none⟩), .string s, .int .i64 (n : Int)] w (NameIs w B T N a1 a2 a3 a4 nm (upd f (key8 s) n)) := by
  cases nm with
  | none => exact name_first B T N a1 a2 a3 a4 f s hs n hn hN w hB hT h
  | some b => exact name_more B T N b a1 a2 a3 a4 f s hs n hn hN w hT h
theorem forget_at (B T N : Nat) (nm : Option Nat) (a1 a2 a3 a4 : Value) (f : List UInt8 → Option Nat) (ns : List St) (hns : ∀ s ∈ ns, StOk s) (hlen : ns.length ≤ 1000000) (av : Option Addr) (m cp : Nat) (hm : m = ns.length) (w : World)
    (hT : Has w T 66 [a1, a2, a3, a4, .map nm]) (h : NamedOk w B nm N f)
    (hrow : ns = [] ∨ ∃ g o cs, av = some ⟨g, o, none⟩ ∧ Has w g 44 cs ∧ ∀ i s, ns[i]? = some s → cs[o + i * 2]? = some (.string s.1) ∧ cs[o + i * 2 + 1]? = some (.int .i64 s.2)) :
    Calls Try.prog 39 #[.pointer (some ⟨T, 0, none⟩), .slice av m cp] w (ForgetIs w B N nm (dels f (ns.map fun s => key8 s.1))) := by
  subst hm
  exact forget_any B T N nm a1 a2 a3 a4 f ns hns hlen av cp w hT h hrow
/-- The table and its stamps. -/
def IsTS (w : World) (B T lab : Nat) (fs : List Fd) (fv : Value) (pm : Option Nat) (sv : Value) (nm : Option Nat) (N : Nat) (ss : List St) : Prop :=
  IsT w B T lab fs fv pm sv (.map nm) ∧ IsS w B sv nm N ss ∧ ∀ b, pm = some b → nm ≠ some b
def Fresh (w : World) (nm nm' : Option Nat) : Prop := ∀ x, nm' = some x → nm = some x ∨ w.heap.size ≤ x
def StampIs (w : World) (B T lab : Nat) (fs : List Fd) (fv : Value) (pm : Option Nat) (sv : Value) (nm : Option Nat) (N : Nat) (ss l : List St) (e : Ending) (w' : World) : Prop :=
  match stampsRun fs ss l with
  | some ss' => e = .returned (.bool true) ∧ ∃ sv' nm', IsTS w' B T lab fs fv pm sv' nm' (N + l.length) ss' ∧ Keeps (T :: nm.toList) w w' ∧ Fresh w nm nm' ∧ (∀ x, sv'.ownBlock = some x → w.heap.size ≤ x)
  | none => e = .returned (.bool false) ∧ ∃ nm', IsTS w' B T lab fs fv pm sv nm' (N + l.length) ss ∧ Keeps (T :: nm.toList) w w' ∧ Fresh w nm nm'
/-- What the round of the list has come to. -/
structure SAt (w : World) (B T lab N : Nat) (fs : List Fd) (fv : Value) (pm : Option Nat) (sv : Value) (nm : Option Nat) (ss : List St) (k : Nat) (v5 : Value) (cur : List St) (nx : Option Nat) (wr : World) : Prop where
  tab : Has wr T 66 [.int .u64 (lab : Int), fv, .map pm, sv, .map nx]
  row : wr.ownsRow w.heap.size 44 2 v5 cur.length (rowS cur)
  named : NamedOk wr B nx (N + k) (nameAt cur)
  ok : ∀ s ∈ cur, StOk s
  len : cur.length ≤ ss.length + k
  ext : Ext ss cur
  keeps : Keeps (T :: nm.toList) w wr
  fresh : Fresh w nm nx
theorem NamedOk.more {w : World} {B N M : Nat} {nm : Option Nat} {f : List UInt8 → Option Nat} (h : NamedOk w B nm N f) (hM : N ≤ M) : NamedOk w B nm M f := by
  cases nm with
  | none => exact h
  | some b =>
    obtain ⟨h0, D, hD, hq⟩ := h
    exact ⟨h0, D, hD.mono hM, hq⟩
/-- A world a bit later. -/
theorem SAt.step {w : World} {B T lab N : Nat} {fs : List Fd} {fv : Value} {pm : Option Nat} {sv : Value} {nm : Option Nat} {ss : List St} {k : Nat} {v5 : Value} {cur : List St} {nx : Option Nat} {wr wz : World}
    (h : SAt w B T lab N fs fv pm sv nm ss k v5 cur nx wr) (hk : Keeps [] wr wz) : SAt w B T lab N fs fv pm sv nm ss k v5 cur nx wz :=
  ⟨h.tab.keeps hk (by simp), own_keeps h.row hk (by simp), h.named.keeps hk (by simp), h.ok, h.len, h.ext, h.keeps.trans hk (by simp), h.fresh⟩
/-- The table at a later world. -/
theorem IsT.at {w wr : World} {B T lab : Nat} {fs : List Fd} {fv : Value} {pm : Option Nat} {sv sv' : Value} {nm nx : Option Nat} (h : IsT w B T lab fs fv pm sv (.map nm)) (hd : ∀ b, pm = some b → nm ≠ some b) (hnm : ∀ b, nm = some b → ∀ t cs, ¬ Has w b t cs)
    (hk : Keeps (T :: nm.toList) w wr) (hT : Has wr T 66 [.int .u64 (lab : Int), fv, .map pm, sv', .map nx]) : IsT wr B T lab fs fv pm sv' (.map nx) := by
  obtain ⟨h1, h2, h3, h4⟩ := h
  refine ⟨hT, own_keeps h2 hk fun g hg hm => ?_, h3.below fun b hb => ?_, h4⟩
  · obtain ⟨cs, hc⟩ := own_row h2 g hg
    rcases List.mem_cons.1 hm with rfl | hm
    · exact hc.ne h1 (by decide) rfl
    · exact hnm g (by simpa using hm) _ _ hc
  · subst hb
    refine hk.block b h3.lt fun hm => ?_
    rcases List.mem_cons.1 hm with rfl | hm
    · exact h3.ne h1 rfl
    · exact hd b rfl (by simpa using hm)
theorem IsT.sv {w : World} {B T lab : Nat} {fs : List Fd} {fv : Value} {pm : Option Nat} {sv : Value} {nm : Value} (h : IsT w B T lab fs fv pm sv nm) : Has w T 66 [.int .u64 (lab : Int), fv, .map pm, sv, nm] := h.1
/-- The end where something may not be. -/
theorem stamp_no {w wr wz : World} {B T lab N : Nat} {fs : List Fd} {fv : Value} {pm : Option Nat} {sv : Value} {nm : Option Nat} {ss l : List St} {k : Nat} {v5 : Value} {cur : List St} {nx : Option Nat}
    (hI : IsTS w B T lab fs fv pm sv nm N ss) (h : SAt w B T lab N fs fv pm sv nm ss k v5 cur nx wr) (hk : k ≤ l.length) (hN : N + l.length ≤ 1000000) (hrun : stampsRun fs ss l = none)
    (hf : NamedOk wz B nx (N + k) (dels (nameAt cur) ((cur.drop ss.length).map fun s => key8 s.1)) ∧ Keeps nx.toList wr wz) : StampIs w B T lab fs fv pm sv nm N ss l (.returned (.bool false)) wz := by
  unfold StampIs
  rw [hrun]
  have hnm : ∀ b, nm = some b → ∀ t cs, ¬ Has w b t cs := fun b hb t cs hc => by subst hb; exact hI.2.1.2.1.ne hc rfl
  have hnx : ∀ b, nx = some b → ∀ t cs, ¬ Has wr b t cs := fun b hb t cs hc => by subst hb; exact h.named.ne hc rfl
  have hT : Has wz T 66 [.int .u64 (lab : Int), fv, .map pm, sv, .map nx] := h.tab.keeps hf.2 fun hm => hnx T (by simpa using hm) _ _ h.tab
  have hkz : Keeps (T :: nm.toList) w wz := h.keeps.trans hf.2 fun x hx => by
    rcases h.fresh x (by simpa using hx) with h9 | h9
    · exact .inl (by simp [h9])
    · exact .inr h9
  refine ⟨rfl, nx, ⟨hI.1.at hI.2.2 hnm hkz hT, ⟨own_keeps hI.2.1.1 hkz fun g hg hm => ?_, (hf.1.more (by omega)).ext fun x => h.ext.back x, hI.2.1.2.2.1, by have := hI.2.1.2.2.2.1; omega, hN⟩, fun b hb hx => ?_⟩, hkz, h.fresh⟩
  · obtain ⟨cs, hc⟩ := own_row hI.2.1.1 g hg
    rcases List.mem_cons.1 hm with rfl | hm
    · exact hc.ne hI.1.1 (by decide) rfl
    · exact hnm g (by simpa using hm) _ _ hc
  · rcases h.fresh b hx with h9 | h9
    · exact hI.2.2 b hb h9
    · subst hb
      have := hI.1.2.2.1.lt
      omega
/-- The end where all may be. -/
theorem stamp_yes {w wr : World} {B T lab N : Nat} {fs : List Fd} {fv : Value} {pm : Option Nat} {sv : Value} {nm : Option Nat} {ss l : List St} {v5 : Value} {cur : List St} {nx : Option Nat}
    (hI : IsTS w B T lab fs fv pm sv nm N ss) (hB : B ≤ w.heap.size) (h : SAt w B T lab N fs fv pm sv nm ss l.length v5 cur nx wr) (hN : N + l.length ≤ 1000000) (hrun : stampsRun fs ss l = some cur) :
    StampIs w B T lab fs fv pm sv nm N ss l (.returned (.bool true)) (wr.setCell ⟨T, 3, none⟩ v5) := by
  unfold StampIs
  rw [hrun]
  have hnm : ∀ b, nm = some b → ∀ t cs, ¬ Has w b t cs := fun b hb t cs hc => by subst hb; exact hI.2.1.2.1.ne hc rfl
  have hnx : ∀ b, nx = some b → ∀ t cs, ¬ Has wr b t cs := fun b hb t cs hc => by subst hb; exact h.named.ne hc rfl
  have hT : Has (wr.setCell ⟨T, 3, none⟩ v5) T 66 [.int .u64 (lab : Int), fv, .map pm, v5, .map nx] := h.tab.set 3 v5
  have hkz : Keeps (T :: nm.toList) w (wr.setCell ⟨T, 3, none⟩ v5) := h.keeps.trans (Keeps.set wr T 3 v5) (by simp)
  refine ⟨rfl, v5, nx, ⟨hI.1.at hI.2.2 hnm hkz hT, ⟨own_base (own_keeps h.row (Keeps.set wr T 3 v5) fun g hg => ?_) hB, h.named.keeps (Keeps.set wr T 3 v5) fun b hb hm => ?_, h.ok, by have := h.len; have := hI.2.1.2.2.2.1; omega, hN⟩, fun b hb hx => ?_⟩, hkz, h.fresh, fun x hx => (own_lt h.row x hx).1⟩
  · have := own_ne h.row h.tab (by decide) g hg
    simpa using this
  · have : b = T := by simpa using hm
    subst this
    exact hnx b hb _ _ h.tab
  · rcases h.fresh b hx with h9 | h9
    · exact hI.2.2 b hb h9
    · subst hb
      have := hI.1.2.2.1.lt
      omega
/-- A new stamp appended: ahead of its name. -/
theorem SAt.app {w : World} {B T lab N : Nat} {fs : List Fd} {fv : Value} {pm : Option Nat} {sv : Value} {nm : Option Nat} {ss : List St} {k : Nat} {v5 : Value} {cur : List St} {nx : Option Nat} {wr w6 : World} {o : Go.Obj}
    (h : SAt w B T lab N fs fv pm sv nm ss k v5 cur nx wr) (hg : (wr.alloc o).grownBy w6 v5.ownBlock) :
    Has w6 T 66 [.int .u64 (lab : Int), fv, .map pm, sv, .map nx] ∧ NamedOk w6 B nx (N + k) (nameAt cur) ∧ Keeps (T :: nm.toList) w w6 ∧ wr.heap.size < w6.heap.size := by
  have hk : Keeps v5.ownBlock.toList wr w6 := (((Keeps.refl v5.ownBlock.toList wr).trans (Keeps.alloc [] wr o) (by simp)).trans (Keeps.grown hg) (fun x hx => .inl hx))
  refine ⟨h.tab.keeps hk fun hm => ?_, h.named.keeps hk fun b hb hm => ?_, h.keeps.trans hk fun x hx => .inr (own_lt h.row x (by simpa using hx)).1, ?_⟩
  · obtain ⟨cs, hc⟩ := own_row h.row T (by simpa using hm)
    exact hc.ne h.tab (by decide) rfl
  · subst hb
    obtain ⟨cs, hc⟩ := own_row h.row b (by simpa using hm)
    exact h.named.ne hc rfl
  · have := hg.size
    simp at this
    omega
theorem SAt.snoc {w : World} {B T lab N : Nat} {fs : List Fd} {fv : Value} {pm : Option Nat} {sv : Value} {nm : Option Nat} {ss : List St} {k : Nat} {v5 v6 : Value} {cur : List St} {nx : Option Nat} {wr w6 w7 : World} {o : Go.Obj} {e : Ending}
    (h : SAt w B T lab N fs fv pm sv nm ss k v5 cur nx wr) (hg : (wr.alloc o).grownBy w6 v5.ownBlock) (s : St) (hs : StOk s) (hna : nameAt cur (key8 s.1) = none)
    (hrow : w6.ownsRow w.heap.size 44 2 v6 (cur.length + 1) (rowS cur ++ [.string s.1, .int .i64 s.2]))
    (hn : NameIs w6 B T (N + k) (.int .u64 (lab : Int)) fv (.map pm) sv nx (upd (nameAt cur) (key8 s.1) cur.length) e w7) :
    ∃ nx', SAt w B T lab N fs fv pm sv nm ss (k + 1) v6 (cur ++ [s]) nx' w7 := by
  obtain ⟨h1, h2, h3, h4⟩ := h.app hg
  obtain ⟨-, nx', q1, q2, q3, q4⟩ := hn
  refine ⟨nx', q1, ?_, q2.ext fun x => ?_, ?_, ?_, h.ext.snoc s hna, h3.trans q3 fun x hx => ?_, fun x hx => ?_⟩
  · rw [rowS_snoc, List.length_append]
    refine own_keeps hrow q3 fun g hg9 hm => ?_
    obtain ⟨cs, hc⟩ := own_row hrow g hg9
    rcases List.mem_cons.1 hm with rfl | hm
    · exact hc.ne h1 (by decide) rfl
    · have e9 : nx = some g := by simpa using hm
      subst e9
      exact h2.ne hc rfl
  · unfold upd
    rw [nameAt_snoc]
    by_cases hx : x = key8 s.1
    · subst hx
      simp [hna]
    · rw [if_neg hx]
      cases nameAt cur x with
      | some i => rfl
      | none => rw [if_neg (fun h9 => hx h9.symm)]
  · intro x hx
    rcases List.mem_append.1 hx with h9 | h9
    · exact h.ok x h9
    · have : x = s := by simpa using h9
      rw [this]
      exact hs
  · have := h.len
    rw [List.length_append]
    simp
    omega
  · rcases List.mem_cons.1 hx with rfl | hx
    · exact .inl (by simp)
    · rcases h.fresh x (by simpa using hx) with h9 | h9
      · exact .inl (by simp [h9])
      · exact .inr h9
  · rcases q4 x hx with h9 | h9
    · exact h.fresh x h9
    · right
      have := h3.size
      omega
theorem SAt.more {w : World} {B T lab N : Nat} {fs : List Fd} {fv : Value} {pm : Option Nat} {sv : Value} {nm : Option Nat} {ss : List St} {k : Nat} {v5 : Value} {cur : List St} {nx : Option Nat} {wr : World}
    (h : SAt w B T lab N fs fv pm sv nm ss k v5 cur nx wr) : SAt w B T lab N fs fv pm sv nm ss (k + 1) v5 cur nx wr :=
  ⟨h.tab, h.row, h.named.more (by omega), h.ok, by have := h.len; omega, h.ext, h.keeps, h.fresh⟩
/-- A stamp made narrower. -/
theorem SAt.kinds {w : World} {B T lab N : Nat} {fs : List Fd} {fv : Value} {pm : Option Nat} {sv : Value} {nm : Option Nat} {ss : List St} {k : Nat} {g cap : Nat} {cur : List St} {nx : Option Nat} {wr : World}
    (h : SAt w B T lab N fs fv pm sv nm ss k (.slice (some ⟨g, 0, none⟩) cur.length cap) cur nx wr) (n : Nat) (e : St) (he : cur[n]? = some e) (a b : Int) :
    (∃ cs, Has wr g 44 cs ∧ cs[n * 2 + 1]? = some (.int .i64 e.2)) ∧ SAt w B T lab N fs fv pm sv nm ss k (.slice (some ⟨g, 0, none⟩) cur.length cap) (cur.set n (e.1, andI a b)) nx (wr.setCell ⟨g, n * 2 + 1, none⟩ (.int .i64 (andI a b))) := by
  obtain ⟨cs, h1, h2, h3, h4⟩ := own_kinds (andI a b) h.row he
  refine ⟨⟨cs, h1, h3⟩, h.tab.keeps (Keeps.set wr g _ _) fun hm => ?_, h4, (h.named.keeps (Keeps.set wr g _ _) fun b hb hm => ?_).ext fun x => (nameAt_set cur n e he _ x).symm, fun s hs => ?_, by rw [List.length_set]; exact h.len, h.ext.set n e he _, h.keeps.trans (Keeps.set wr g _ _) fun x hx => .inr ?_, h.fresh⟩
  · have : T = g := by simpa using hm
    subst this
    exact h1.ne h.tab (by decide) rfl
  · have : b = g := by simpa using hm
    subst this hb
    exact h.named.ne h1 rfl
  · rcases List.mem_or_eq_of_mem_set hs with h9 | h9
    · exact h.ok s h9
    · rw [h9]
      exact ⟨(h.ok e (List.mem_of_getElem? he)).1, andI_i64 a b⟩
  · have : x = g := by simpa using hx
    subst this
    exact h2
theorem step_some {fs : List Fd} {cur c1 : List St} {s e : St} {n : Nat} {kd : Int} (hk : kindAt fs (strKey s.1) = some kd) (hn : narrow cur s = c1.set n (e.1, andI e.2 s.2)) (hna : nameAt c1 (key8 s.1) = some n) (he : c1[n]? = some e) (hm : mayB (andI e.2 s.2) kd = true) : stepS fs cur s = some (c1.set n (e.1, andI e.2 s.2)) := by
  unfold stepS
  rw [hk, hn]
  show (if _ then _ else _) = _
  rw [fitB_set hna he, if_pos hm]
theorem step_no {fs : List Fd} {cur c1 : List St} {s e : St} {n : Nat} {kd : Int} (hk : kindAt fs (strKey s.1) = some kd) (hn : narrow cur s = c1.set n (e.1, andI e.2 s.2)) (hna : nameAt c1 (key8 s.1) = some n) (he : c1[n]? = some e) (hm : mayB (andI e.2 s.2) kd = false) : stepS fs cur s = none := by
  unfold stepS
  rw [hk, hn]
  show (if _ then _ else _) = _
  rw [fitB_set hna he, if_neg (by rw [hm]; simp)]
end TabD
end Go.Proofs.Ytpmbbkhhnkhcbaa
