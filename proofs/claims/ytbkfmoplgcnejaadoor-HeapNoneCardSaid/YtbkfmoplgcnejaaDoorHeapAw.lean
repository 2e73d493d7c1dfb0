/- The chapter's example: a heap with room for one. -/
import Derived.Test.YtbkfmoplgcnejaaDoorHeapNil
import Derived.Maps.AppendAt
import Derived.Lib.SliceRun
import Derived.StillTailTactics
import Derived.Laws.EntriesVeiled
namespace Go.Proofs.YtbkfmoplgcnejaaDoor
open Go.RowKit ObjM
namespace HeapD
open LabelM LabelD ValD

theorem ha_at (g k : Nat) : (⟨g, 0, none⟩ : Addr).add k = ⟨g, k, none⟩ := by
  simp [Addr.add]
  intro h
  exact h.symm
theorem wpList_append_run {P : Program} {ops : Array Oper} {o : Oper} {rest : List Oper} {a : Act} {w : World} {Q : Exit → Act → World → Prop} (hw : Region.wanted o (yielded ops a.tmps) = true)
    (s x : Operand) (t : TypeId) (hop : o.op = Op.call { callee := Callee.builtin Builtin.append, args := #[s, x], argTypes := #[t, t] }) (v' : Value) (w' : World) (v u : Value) (hs : a.eval s = v) (hx : a.eval x = u)
    (hrun : (Builtin.append_ #[t, t] o.type #[v, u]).run P w = .ok v' w') (hK : wpList P ops Q rest (a.put o.dst v') w') : wpList P ops Q (o :: rest) a w := by
  unfold wpList
  rw [if_pos hw]
  refine .inl ?_
  subst hs hx
  unfold Oper.wp
  simp [execOp, hop, resolve, invoke, builtin, hrun, Result.andThen]
  exact hK
/-- A heap with room for one. -/
structure HeapAt (w : World) (Hp Bx Pv : Nat) (ts : Value) (u : Int) : Prop where
  h : Has w Hp 73 [ts, .slice none 0 0, .slice none 0 0, .int .i64 u, .func (.func 45) #[] #[.pointer (some ⟨Bx, 0, none⟩), .pointer (some ⟨Pv, 0, none⟩)]]
  b : Has w Bx 3 [.int .i64 1]
  p : Has w Pv 36 [.pointer (some ⟨Hp, 0, none⟩)]
theorem HeapAt.keeps {w w' : World} {Hp Bx Pv : Nat} {ts : Value} {u : Int} (h : HeapAt w Hp Bx Pv ts u) (k : Keeps [] w w') : HeapAt w' Hp Bx Pv ts u := ⟨h.h.keeps k (by simp), h.b.keeps k (by simp), h.p.keeps k (by simp)⟩
theorem tnew_any (l : Int) (w : World) : Calls Tryd.prog 24 #[.int .u64 l] w fun e w' => e = .returned (.pointer (some ⟨w.heap.size, 0, none⟩)) ∧ Below w.heap.size w w' := by
  have HA := Lib.hid (alloc1 (w := w) (o := .cells #[.int .u64 l, .slice none 0 0, .map none, .slice none 0 0, .map none] 97))
  go_enter Tryd.func24, Tryd.ntmps24
  go_wp2
  go_ret
  exact ⟨rfl, HA.out⟩
set_option maxRecDepth 100000 in
theorem new_one (w : World) : Calls Tryd.prog 21 #[.int .i64 1] w fun e w' => ∃ Hp Bx Pv, e = .returned (.pointer (some ⟨Hp, 0, none⟩)) ∧ Hid (HeapAt w' Hp Bx Pv (.slice none 0 0) 0 ∧ Below w.heap.size w w' ∧ w.heap.size ≤ Hp) := by
  go_enter Tryd.func21, Tryd.ntmps21
  go_wp2
  go_ret
  obtain ⟨W1, hW1⟩ : ∃ W1, w.alloc (.cells #[.int .i64 1] 3) = W1 := ⟨_, rfl⟩
  have h1 : Has W1 w.heap.size 3 [.int .i64 1] := by rw [← hW1]; exact Has.new w 3 _
  have s1 : W1.heap.size = w.heap.size + 1 := by rw [← hW1]; simp
  have b1 : Below w.heap.size w W1 := by rw [← hW1]; exact alloc1
  rw [hW1]
  obtain ⟨W2, hW2⟩ : ∃ W2, W1.alloc (.cells #[.slice none 0 0, .slice none 0 0, .slice none 0 0, .int .i64 0, .func (.func 45) #[] #[.pointer (some ⟨w.heap.size, 0, none⟩), .pointer (some ⟨w.heap.size + 1 + 1, 0, none⟩)]] 73) = W2 := ⟨_, rfl⟩
  have h2 : Has W2 (w.heap.size + 1) 73 [.slice none 0 0, .slice none 0 0, .slice none 0 0, .int .i64 0, .func (.func 45) #[] #[.pointer (some ⟨w.heap.size, 0, none⟩), .pointer (some ⟨w.heap.size + 1 + 1, 0, none⟩)]] := by rw [← hW2, ← s1]; exact Has.new W1 73 _
  have s2 : W2.heap.size = w.heap.size + 1 + 1 := by rw [← hW2]; simp [s1]
  have b2 : Below W1.heap.size W1 W2 := by rw [← hW2]; exact alloc1
  rw [hW2]
  have h3 := Has.new W2 36 [.pointer (some ⟨w.heap.size + 1, 0, none⟩)]
  have b3 : Below W2.heap.size W2 (W2.alloc (.cells #[.pointer (some ⟨w.heap.size + 1, 0, none⟩)] 36)) := alloc1
  rw [s2] at h3
  refine ⟨w.heap.size + 1, w.heap.size, w.heap.size + 1 + 1, rfl, Lib.hid ⟨⟨h2.below b3 h2.lt, (h1.below b2 h1.lt).below b3 (by omega), h3⟩, (b1.trans (b2.mono b1.size)).trans (b3.mono (by omega)), by omega⟩⟩
set_option maxRecDepth 100000 in
theorem room_any (n u : Int) (hn : n = 1) (Hp Bx Pv : Nat) (ts : Value) (hu : u = 0 ∨ u = 1) (w : World) (h : HeapAt w Hp Bx Pv ts u) : Calls Tryd.prog 45 #[.int .i64 n, .pointer (some ⟨Bx, 0, none⟩), .pointer (some ⟨Pv, 0, none⟩)] w fun e w' => e = .returned (.bool (decide (u = 0))) ∧ Below w.heap.size w w' := by
  subst hn
  have HB : Hid (∀ q, Below w.heap.size w (w.drewN q)) := Lib.hid fun q => drewN_below (Below.refl _ _) q
  have c0 := h.b.cell 0
  have l0 := h.b.lt
  have c1 := h.p.cell 0
  have l1 := h.p.lt
  have c2 := h.h.cell 3
  have l2 := h.h.lt
  simp only [List.getElem?_cons_zero, List.getElem?_cons_succ] at c0 c1 c2
  clear h
  rcases hu with rfl | rfl
  · go_enter Tryd.func45, Tryd.ntmps45
    go_wp2
    go_quiet (fail)
    go_wp2
    go_ret
    exact ⟨rfl, HB.out _⟩
  · go_enter Tryd.func45, Tryd.ntmps45
    go_wp2
    go_quiet (fail)
    go_wp2
    go_ret
    exact ⟨rfl, HB.out _⟩
theorem HeapAt.used {w : World} {Hp Bx Pv : Nat} {ts : Value} {u : Int} (h : HeapAt w Hp Bx Pv ts u) (v : Int) : HeapAt (w.setCell ⟨Hp, 3, none⟩ (.int .i64 v)) Hp Bx Pv ts v :=
  ⟨h.h.set 3 _, h.b.keeps (Keeps.set _ _ _ _) (by simpa using h.b.ne h.h (by decide)), h.p.keeps (Keeps.set _ _ _ _) (by simpa using h.p.ne h.h (by decide))⟩
theorem HeapAt.tabs {w : World} {Hp Bx Pv : Nat} {ts : Value} {u : Int} (h : HeapAt w Hp Bx Pv ts u) (v : Value) : HeapAt (w.setCell ⟨Hp, 0, none⟩ v) Hp Bx Pv v u :=
  ⟨h.h.set 0 _, h.b.keeps (Keeps.set _ _ _ _) (by simpa using h.b.ne h.h (by decide)), h.p.keeps (Keeps.set _ _ _ _) (by simpa using h.p.ne h.h (by decide))⟩
theorem room_there (Bx Pv : Nat) (W : World) : Sem.run Tryd.prog (binOp BinOp.eql 51 (.func (.func 45) #[] #[.pointer (some ⟨Bx, 0, none⟩), .pointer (some ⟨Pv, 0, none⟩)]) .nilFunc) W = .ok (.bool false) W := by kernel_rfl
set_option maxRecDepth 100000 in
set_option maxHeartbeats 4000000 in
theorem charge_yes (Hp Bx Pv : Nat) (ts : Value) (w : World) (h : HeapAt w Hp Bx Pv ts 0) : Calls Tryd.prog 12 #[.pointer (some ⟨Hp, 0, none⟩), .int .i64 1] w fun e w' => e = .returned (.bool true) ∧ Hid (HeapAt w' Hp Bx Pv ts 1 ∧ Keeps [Hp] w w') := by
  have HR := Lib.hid (room_any 1 0 rfl Hp Bx Pv ts (.inl rfl) w h)
  have c4 := h.h.cell 4
  have l := h.h.lt
  simp only [List.getElem?_cons_zero, List.getElem?_cons_succ] at c4
  have HH := Lib.hid h
  have hrt := room_there Bx Pv
  clear h
  go_enter Tryd.func12, Tryd.ntmps12
  go_wp2_with fail
  refine HR.out.mono ?_
  rintro e w2 ⟨rfl, hb⟩
  have h2 := HH.out.keeps (Keeps.below' hb [])
  have HE : Hid (HeapAt (w2.setCell ⟨Hp, 3, none⟩ (.int .i64 1)) Hp Bx Pv ts 1 ∧ Keeps [Hp] w (w2.setCell ⟨Hp, 3, none⟩ (.int .i64 1))) := Lib.hid ⟨h2.used 1, (Keeps.below' hb [Hp]).trans (Keeps.set _ _ _ _) (by simp)⟩
  have d3 := h2.h.cell 3
  have dl := h2.h.lt
  have df := h2.h.frozen 3
  simp only [List.getElem?_cons_zero, List.getElem?_cons_succ] at d3
  clear c4 l hb h2 HH HR
  go_wp2
  go_ret
  exact ⟨rfl, HE⟩
set_option maxRecDepth 100000 in
set_option maxHeartbeats 4000000 in
theorem charge_no (Hp Bx Pv : Nat) (ts : Value) (w : World) (h : HeapAt w Hp Bx Pv ts 1) : Calls Tryd.prog 12 #[.pointer (some ⟨Hp, 0, none⟩), .int .i64 1] w fun e w' => e = .returned (.bool false) ∧ Below w.heap.size w w' := by
  have HR := Lib.hid (room_any 1 1 rfl Hp Bx Pv ts (.inr rfl) w h)
  have c4 := h.h.cell 4
  have l := h.h.lt
  simp only [List.getElem?_cons_zero, List.getElem?_cons_succ] at c4
  have hrt := room_there Bx Pv
  clear h
  go_enter Tryd.func12, Tryd.ntmps12
  go_wp2_with fail
  refine HR.out.mono ?_
  rintro e w2 ⟨rfl, hb⟩
  have HB := Lib.hid hb
  clear c4 l hb HR
  go_wp2
  go_ret
  exact ⟨rfl, HB.out⟩
theorem infoTp : (Tryd.prog.info? 53).map (fun i => (i.zero, i.size, i.bytes)) = some (some (.pointer none), 1, 8) := by kernel_rfl
theorem info_tp : ∃ i, Tryd.prog.info? 53 = some i ∧ i.zero = some (.pointer none) ∧ i.size = 1 ∧ i.bytes = 8 := by
  cases hi : Tryd.prog.info? 53 with
  | none => have := infoTp; rw [hi] at this; cases this
  | some i =>
    have h := infoTp
    rw [hi] at h
    simp at h
    exact ⟨i, rfl, h.1, h.2.1, h.2.2⟩
/-- The tables' row with one in it. -/
def OneTab (w : World) (ts : Value) (tp : Value) : Prop := ∃ Q cap cs, ts = .slice (some ⟨Q, 0, none⟩) 1 cap ∧ Has w Q 53 cs ∧ cs[0]? = some tp
theorem OneTab.keeps {w w' : World} {ts tp : Value} (h : OneTab w ts tp) (k : Keeps [] w w') : OneTab w' ts tp := by
  obtain ⟨Q, cap, ds, h1, h2, h3⟩ := h
  exact ⟨Q, cap, ds, h1, h2.keeps k (by simp), h3⟩
theorem OneTab.other {w w' : World} {ts tp : Value} {P : Nat} {t : TypeId} {cs : List Value} (h : OneTab w ts tp) (k : Keeps [P] w w') (hP : Has w P t cs) (ht : 53 ≠ t) : OneTab w' ts tp := by
  obtain ⟨Q, cap, ds, h1, h2, h3⟩ := h
  exact ⟨Q, cap, ds, h1, h2.keeps k (by simpa using h2.ne hP ht), h3⟩
theorem HeapAt.other {w w' : World} {Hp Bx Pv : Nat} {ts : Value} {u : Int} {P : Nat} {cs : List Value} (h : HeapAt w Hp Bx Pv ts u) (k : Keeps [P] w w') (hP : Has w P 25 cs) : HeapAt w' Hp Bx Pv ts u :=
  ⟨h.h.keeps k (by simpa using h.h.ne hP (by decide)), h.b.keeps k (by simpa using h.b.ne hP (by decide)), h.p.keeps k (by simpa using h.p.ne hP (by decide))⟩
theorem set4 (w : World) (P : Nat) (a b c d : Value) : Keeps [P] w ((((w.setCell ⟨P, 0, none⟩ a).setCell ⟨P, 1, none⟩ b).setCell ⟨P, 2, none⟩ c).setCell ⟨P, 3, none⟩ d) :=
  (((Keeps.set w P 0 a).trans (Keeps.set _ P 1 b) (by simp)).trans (Keeps.set _ P 2 c) (by simp)).trans (Keeps.set _ P 3 d) (by simp)
set_option maxRecDepth 100000 in
set_option maxHeartbeats 4000000 in
theorem add_one (Hp Bx Pv T : Nat) (u : Int) (w : World) (h : HeapAt w Hp Bx Pv (.slice none 0 0) u) : Calls Tryd.prog 23 #[.pointer (some ⟨Hp, 0, none⟩), .pointer (some ⟨T, 0, none⟩)] w fun e w' => e = .returned (.int .i64 0) ∧ ∃ ts, Hid (HeapAt w' Hp Bx Pv ts u ∧ OneTab w' ts (.pointer (some ⟨T, 0, none⟩)) ∧ Keeps [Hp] w w') := by
  obtain ⟨i0, hi, hz0, hz1, hz2⟩ := info_tp
  have k1 : Keeps [] w (w.alloc (.cells #[.pointer (some ⟨T, 0, none⟩)] 53)) := Keeps.alloc [] w _
  obtain ⟨v2, w5, hrun, ho, hk5, -, hv5⟩ := run_append_own_at (P := Tryd.prog) (w := w.alloc (.cells #[.pointer (some ⟨T, 0, none⟩)] 53)) w.heap.size 63 63 53 i0 (.pointer none) 1 8 Tryd.underlying63 hi hz0 hz1 hz2 rfl (by decide) (.slice none 0 0) _ [] (World.ownsRow_nil _ _ _ _) ⟨w.heap.size, 0, none⟩ 1 1 [.pointer (some ⟨T, 0, none⟩)] rfl
    (fun k u hk => by rw [ha_at, (Has.new w 53 [.pointer (some ⟨T, 0, none⟩)]).cell]; exact hk)
    (fun u hu => by simp at hu; rw [hu]; rfl) (by unfold maxLen; simp) (by simp) (by simp)
  have h5 := (h.keeps k1).keeps (Keeps.grown hk5)
  have k5 : Keeps [] w w5 := k1.trans (Keeps.grown hk5) (by simp [Value.ownBlock])
  obtain ⟨g, cap, cs, rfl, hg, hQ, -, -, hcl, htk⟩ : ∃ g cap cs, v2 = .slice (some ⟨g, 0, none⟩) 1 cap ∧ w.heap.size ≤ g ∧ Has w5 g 53 cs ∧ 1 ≤ cap ∧ cap ≤ maxLen ∧ cs.length = cap * 1 ∧ cs.take (1 * 1) = [.pointer (some ⟨T, 0, none⟩)] := by
    rcases own_shape ho with ⟨-, h0, -⟩ | ⟨g, cap, cs, h1, h2, h3, h4, h5, h6, h7⟩
    · simp at h0
    · exact ⟨g, cap, cs, h1, h2, h3, h4, h5, h6, h7⟩
  have hc0 : w5.cell? ⟨g, 0, none⟩ = some (.pointer (some ⟨T, 0, none⟩)) := by
    rw [hQ.cell]
    have := congrArg (fun l => l[0]?) htk
    simpa [List.getElem?_take] using this
  have hgn : g ≠ Hp := hQ.ne h5.h (by decide)
  have HE : Hid (HeapAt (w5.setCell ⟨Hp, 0, none⟩ (.slice (some ⟨g, 0, none⟩) 1 cap)) Hp Bx Pv (.slice (some ⟨g, 0, none⟩) 1 cap) u ∧ OneTab (w5.setCell ⟨Hp, 0, none⟩ (.slice (some ⟨g, 0, none⟩) 1 cap)) (.slice (some ⟨g, 0, none⟩) 1 cap) (.pointer (some ⟨T, 0, none⟩)) ∧ Keeps [Hp] w (w5.setCell ⟨Hp, 0, none⟩ (.slice (some ⟨g, 0, none⟩) 1 cap))) := Lib.hid ⟨h5.tabs _, ⟨g, cap, cs, rfl, hQ.keeps (Keeps.set w5 Hp 0 (.slice (some ⟨g, 0, none⟩) 1 cap)) (by simpa using hgn), by
    rw [← hQ.cell]
    exact hc0⟩, (k5.mono (by simp)).trans (Keeps.set _ _ _ _) (by simp)⟩
  have HRun := Lib.hid hrun
  have c0 := h.h.cell 0
  have l0 := h.h.lt
  have d0 := h5.h.cell 0
  have dl := h5.h.lt
  have df := h5.h.frozen 0
  simp only [List.getElem?_cons_zero] at c0 d0
  clear h h5 k1 k5 hrun ho hk5 hv5 hQ hcl htk hc0 hgn hg hi hz0 hz1 hz2
  go_enter Tryd.func23, Tryd.ntmps23
  go_wp2_with (at_builtin; refine wpList_append_run (by rfl) (.tmp 9) (.tmp 11) 63 rfl _ _ _ _ rfl rfl HRun.out ?_)
  go_ret
  exact ⟨rfl, _, HE⟩
set_option maxRecDepth 100000 in
set_option maxHeartbeats 4000000 in
theorem table_yes (Hp Bx Pv : Nat) (w : World) (h : HeapAt w Hp Bx Pv (.slice none 0 0) 0) : Calls Tryd.prog 6 #[.pointer (some ⟨Hp, 0, none⟩), .int .u64 0] w fun e w' => e = .returned (.tuple #[.agg #[.int .i64 4, .int .i64 0, .string ⟨#[]⟩, .int .u64 0], .bool true]) ∧ ∃ ts T, Hid (HeapAt w' Hp Bx Pv ts 1 ∧ OneTab w' ts (.pointer (some ⟨T, 0, none⟩)) ∧ Keeps [Hp] w w') := by
  have k1 : Keeps [] w (w.alloc (.cells #[.int .i64 0, .int .i64 0, .string ⟨#[]⟩, .int .u64 0] 25)) := Keeps.alloc [] w _
  have HC := Lib.hid (charge_yes Hp Bx Pv (.slice none 0 0) _ (h.keeps k1))
  have HZ := Lib.hid (Has.new w 25 [.int .i64 0, .int .i64 0, .string ⟨#[]⟩, .int .u64 0])
  have HK1 := Lib.hid k1
  have hHp : Hp < w.heap.size := h.h.lt
  obtain ⟨P, hP⟩ : ∃ P, w.heap.size = P := ⟨_, rfl⟩
  obtain ⟨W1, hW1⟩ : ∃ W1, w.alloc (.cells #[.int .i64 0, .int .i64 0, .string ⟨#[]⟩, .int .u64 0] 25) = W1 := ⟨_, rfl⟩
  have HW1 := Lib.hid hW1
  have HP := Lib.hid hP
  rw [hW1] at HC HZ HK1
  rw [hP] at HZ hHp
  clear h k1 hW1 hP
  go_enter Tryd.func6, Tryd.ntmps6
  go_wp2_with fail
  rw [HW1.out, HP.out]
  refine HC.out.mono ?_
  rintro e w2 ⟨rfl, H2⟩
  have HN := Lib.hid (fun W => tnew_any 0 W)
  have HT2 : Hid (∀ W, Below w2.heap.size w2 W → HeapAt W Hp Bx Pv (.slice none 0 0) 1 ∧ Keeps [Hp] W1 W) := Lib.hid fun W hW => ⟨H2.out.1.keeps (Keeps.below' hW []), H2.out.2.trans (Keeps.below' hW []) (by simp)⟩
  clear HC
  go_wp2
  first
    | (go_region_with (first
        | (go_at_call 24
           refine (HN.out _).mono ?_
           rintro e w3 ⟨rfl, hb3⟩
           have p3 : Below w2.heap.size w2 w3 := ((Below.refl w2.heap.size w2).drew).trans hb3
           have h3 := HT2.out _ p3)
        | (go_at_call 23
           refine (add_one Hp Bx Pv _ 1 _ h3.1).mono ?_
           rintro e w4 ⟨rfl, ts, H4⟩
           have hP4 := (HZ.out.keeps h3.2 (by simp; omega)).keeps H4.out.2.2 (by simp; omega)
           have c0 := hP4.cell 0
           have c1 := hP4.cell 1
           have c2 := hP4.cell 2
           have c3 := hP4.cell 3
           have l4 := hP4.lt
           have f40 := hP4.frozen 0
           have f41 := hP4.frozen 1
           have f42 := hP4.frozen 2
           have f43 := hP4.frozen 3
           have HF : Hid (∀ a b c d, ∃ ts T, Hid (HeapAt ((((w4.setCell ⟨P, 0, none⟩ a).setCell ⟨P, 1, none⟩ b).setCell ⟨P, 2, none⟩ c).setCell ⟨P, 3, none⟩ d) Hp Bx Pv ts 1 ∧ OneTab ((((w4.setCell ⟨P, 0, none⟩ a).setCell ⟨P, 1, none⟩ b).setCell ⟨P, 2, none⟩ c).setCell ⟨P, 3, none⟩ d) ts (.pointer (some ⟨T, 0, none⟩)) ∧ Keeps [Hp] w ((((w4.setCell ⟨P, 0, none⟩ a).setCell ⟨P, 1, none⟩ b).setCell ⟨P, 2, none⟩ c).setCell ⟨P, 3, none⟩ d))) := Lib.hid fun a b c d => ⟨ts, _, Lib.hid ⟨H4.out.1.other (set4 _ _ _ _ _ _) hP4, H4.out.2.1.other (set4 _ _ _ _ _ _) hP4 (by decide), ((HK1.out.mono (by simp)).trans (h3.2.trans H4.out.2.2 (by simp)) (by simp)).trans (set4 _ _ _ _ _ _) (by simp; right; rw [HP.out]; exact Nat.le_refl _)⟩⟩
           simp only [List.getElem?_cons_zero, List.getElem?_cons_succ] at c0 c1 c2 c3)))
    | fail
  all_goals
    go_wp2
    refine bodyPost_ret (v := .tuple #[.agg #[.int .i64 4, .int .i64 0, .string ⟨#[]⟩, .int .u64 0], .bool true]) (by simp [results, Tryd.results6, go_sem, c0, c1, c2, c3]) rfl ⟨rfl, HF.out _ _ _ _⟩
set_option maxRecDepth 100000 in
theorem table_no (Hp Bx Pv : Nat) (ts : Value) (w : World) (h : HeapAt w Hp Bx Pv ts 1) : Calls Tryd.prog 6 #[.pointer (some ⟨Hp, 0, none⟩), .int .u64 0] w fun e w' => e = .returned (.tuple #[.agg #[.int .i64 0, .int .i64 0, .string ⟨#[]⟩, .int .u64 0], .bool false]) ∧ Below w.heap.size w w' := by
  have k1 : Keeps [] w (w.alloc (.cells #[.int .i64 0, .int .i64 0, .string ⟨#[]⟩, .int .u64 0] 25)) := Keeps.alloc [] w _
  have HC := Lib.hid (charge_no Hp Bx Pv ts _ (h.keeps k1))
  have HZ := Lib.hid (Has.new w 25 [.int .i64 0, .int .i64 0, .string ⟨#[]⟩, .int .u64 0])
  have HB1 := Lib.hid (alloc1 (w := w) (o := .cells #[.int .i64 0, .int .i64 0, .string ⟨#[]⟩, .int .u64 0] 25))
  obtain ⟨P, hP⟩ : ∃ P, w.heap.size = P := ⟨_, rfl⟩
  obtain ⟨W1, hW1⟩ : ∃ W1, w.alloc (.cells #[.int .i64 0, .int .i64 0, .string ⟨#[]⟩, .int .u64 0] 25) = W1 := ⟨_, rfl⟩
  have HW1 := Lib.hid hW1
  have HP := Lib.hid hP
  rw [hW1] at HC HZ HB1
  rw [hP] at HZ
  clear h k1 hW1 hP
  go_enter Tryd.func6, Tryd.ntmps6
  go_wp2_with fail
  rw [HW1.out, HP.out]
  refine HC.out.mono ?_
  rintro e w2 ⟨rfl, hb⟩
  have hP2 := HZ.out.below hb HZ.out.lt
  have c0 := hP2.cell 0
  have c1 := hP2.cell 1
  have c2 := hP2.cell 2
  have c3 := hP2.cell 3
  have l4 := hP2.lt
  have f40 := hP2.frozen 0
  have f41 := hP2.frozen 1
  have f42 := hP2.frozen 2
  have f43 := hP2.frozen 3
  have HF : Hid (∀ a b c d, Below w.heap.size w ((((w2.setCell ⟨P, 0, none⟩ a).setCell ⟨P, 1, none⟩ b).setCell ⟨P, 2, none⟩ c).setCell ⟨P, 3, none⟩ d)) := Lib.hid fun a b c d => (HB1.out.trans (hb.mono HB1.out.size)).trans ((set4 _ _ _ _ _ _).toBelow _ (Nat.le_trans HB1.out.size hb.size) (by simp; rw [HP.out]; exact Nat.le_refl _))
  simp only [List.getElem?_cons_zero, List.getElem?_cons_succ] at c0 c1 c2 c3
  clear hb hP2 HC
  go_wp2
  refine bodyPost_ret (v := .tuple #[.agg #[.int .i64 0, .int .i64 0, .string ⟨#[]⟩, .int .u64 0], .bool false]) (by simp [results, Tryd.results6, go_sem, c0, c1, c2, c3]) rfl ⟨rfl, HF.out _ _ _ _⟩
set_option maxRecDepth 100000 in
theorem used_at (Hp Bx Pv : Nat) (ts : Value) (w : World) (h : HeapAt w Hp Bx Pv ts 1) : Calls Tryd.prog 13 #[.pointer (some ⟨Hp, 0, none⟩)] w fun e w' => e = .returned (.int .i64 1) ∧ w = w' := by
  have c3 := h.h.cell 3
  have l := h.h.lt
  simp only [List.getElem?_cons_zero, List.getElem?_cons_succ] at c3
  clear h
  go_enter Tryd.func13, Tryd.ntmps13
  go_wp2
  go_ret
  exact ⟨rfl, rfl⟩
set_option maxRecDepth 100000 in
theorem has_at (Hp Bx Pv : Nat) (Q : Option Addr) (cap : Nat) (u : Int) (w : World) (h : HeapAt w Hp Bx Pv (.slice Q 1 cap) u) : Calls Tryd.prog 39 #[.pointer (some ⟨Hp, 0, none⟩), .int .i64 0] w fun e w' => e = .returned (.bool true) ∧ w = w' := by
  have c0 := h.h.cell 0
  have l := h.h.lt
  simp only [List.getElem?_cons_zero] at c0
  clear h
  go_enter Tryd.func39, Tryd.ntmps39
  go_wp2
  go_ret
  exact ⟨rfl, rfl⟩
set_option maxRecDepth 100000 in
set_option maxHeartbeats 4000000 in
theorem of_at (Hp Bx Pv T : Nat) (ts : Value) (w : World) (h : HeapAt w Hp Bx Pv ts 1) (ht : OneTab w ts (.pointer (some ⟨T, 0, none⟩))) : Calls Tryd.prog 14 #[.pointer (some ⟨Hp, 0, none⟩), .agg #[.int .i64 4, .int .i64 0, .string ⟨#[]⟩, .int .u64 0]] w fun e w' => e = .returned (.pointer (some ⟨T, 0, none⟩)) ∧ Below w.heap.size w w' := by
  obtain ⟨Q, cap, cs, rfl, hQ, hcs⟩ := ht
  have k1 : Keeps [] w (w.alloc (.cells #[.int .i64 4, .int .i64 0, .string ⟨#[]⟩, .int .u64 0] 25)) := Keeps.alloc [] w _
  have HB : Hid (∀ q r, Below w.heap.size w (((w.alloc (.cells #[.int .i64 4, .int .i64 0, .string ⟨#[]⟩, .int .u64 0] 25)).drewN q).drewN r)) := Lib.hid fun q r => drewN_below (drewN_below alloc1 q) r
  have HA := Lib.hid (fun q => has_at Hp Bx Pv (some ⟨Q, 0, none⟩) cap 1 ((w.alloc (.cells #[.int .i64 4, .int .i64 0, .string ⟨#[]⟩, .int .u64 0] 25)).drewN q) ((h.keeps k1).keeps (Keeps.drewN [] _ q)))
  have c0 := h.h.cell 0
  have l0 := h.h.lt
  have cq := (hQ.cell 0).trans hcs
  have lq := hQ.lt
  simp only [List.getElem?_cons_zero] at c0
  clear h hQ hcs k1
  go_enter Tryd.func14, Tryd.ntmps14
  go_wp2
  go_quiet ((go_at_call 39; exact quiet_left (HA.out _)))
  go_wp2
  go_quiet (fail)
  go_wp2
  go_ret
  exact ⟨rfl, HB.out _ _⟩
theorem eqIn_self (k n : Int) (s : ByteArray) (l : Int) (W : World) : Sem.run Tryd.prog (Op.equalIn 10000 25 (.agg #[.int .i64 k, .int .i64 n, .string s, .int .u64 l]) (.agg #[.int .i64 k, .int .i64 n, .string s, .int .u64 l])) W = .ok true W := by
  simp [go_sem]
theorem eq_self (k n : Int) (s : ByteArray) (l : Int) (W : World) : Sem.run Tryd.prog (binOp BinOp.eql 25 (.agg #[.int .i64 k, .int .i64 n, .string s, .int .u64 l]) (.agg #[.int .i64 k, .int .i64 n, .string s, .int .u64 l])) W = .ok (.bool true) W := by
  simp only [go_sem, eqIn_self, Result.andThen]
set_option maxRecDepth 100000 in
set_option maxHeartbeats 4000000 in
theorem awake_any (w : World) : Calls Tryd.prog 4 #[] w fun e w' => e = .returned (.bool true) ∧ Below w.heap.size w w' := by
  have HN := Lib.hid (new_one w)
  have he := eqIn_self
  have hq := eq_self
  go_enter Tryd.func4, Tryd.ntmps4
  go_wp2_with fail
  refine HN.out.mono ?_
  rintro e w1 ⟨Hp, Bx, Pv, rfl, H1⟩
  have HT := Lib.hid (table_yes Hp Bx Pv w1 H1.out.1)
  clear HN
  go_wp2_with fail
  refine HT.out.mono ?_
  rintro e w2 ⟨rfl, ts, T, H2⟩
  have k3 : Keeps [] w2 (w2.alloc (.cells #[.int .i64 4, .int .i64 0, .string ⟨#[]⟩, .int .u64 0] 25)) := Keeps.alloc [] w2 _
  have h3 := H2.out.1.keeps k3
  have HT3 := Lib.hid (table_no Hp Bx Pv ts _ h3)
  have HV3 := Lib.hid (Has.new w2 25 [.int .i64 4, .int .i64 0, .string ⟨#[]⟩, .int .u64 0])
  have HB2 : Hid (Below w.heap.size w w2) := Lib.hid (H1.out.2.1.trans (H2.out.2.2.toBelow _ H1.out.2.1.size (fun x hx => by simp at hx; rw [hx]; exact H1.out.2.2)))
  have HB3 : Hid (Below w.heap.size w (w2.alloc (.cells #[.int .i64 4, .int .i64 0, .string ⟨#[]⟩, .int .u64 0] 25))) := Lib.hid (HB2.out.alloc HB2.out.size _)
  obtain ⟨P, hP⟩ : ∃ P, w2.heap.size = P := ⟨_, rfl⟩
  have HP := Lib.hid hP
  have HO3 : Hid (OneTab (w2.alloc (.cells #[.int .i64 4, .int .i64 0, .string ⟨#[]⟩, .int .u64 0] 25)) ts (.pointer (some ⟨T, 0, none⟩)) ∧ HeapAt (w2.alloc (.cells #[.int .i64 4, .int .i64 0, .string ⟨#[]⟩, .int .u64 0] 25)) Hp Bx Pv ts 1) := Lib.hid ⟨H2.out.2.1.keeps k3, h3⟩
  rw [hP] at HV3
  clear HT k3 h3 hP
  go_wp2_with fail
  try rw [HP.out]
  obtain ⟨W3, hW3⟩ : ∃ W3, w2.alloc (.cells #[.int .i64 4, .int .i64 0, .string ⟨#[]⟩, .int .u64 0] 25) = W3 := ⟨_, rfl⟩
  rw [hW3] at HT3 HV3 HB3 HO3
  rw [hW3]
  refine HT3.out.mono ?_
  rintro e w4 ⟨rfl, hb4⟩
  have k5 : Keeps [] W3 (w4.alloc (.cells #[.int .i64 0, .int .i64 0, .string ⟨#[]⟩, .int .u64 0] 25)) := (Keeps.below' hb4 []).trans (Keeps.alloc [] w4 _) (by simp)
  have hp5 := HV3.out.keeps k5 (by simp)
  have h5 := HO3.out.2.keeps k5
  have HU := Lib.hid (used_at Hp Bx Pv ts _ h5)
  have HO := Lib.hid (of_at Hp Bx Pv T ts _ h5 (HO3.out.1.keeps k5))
  have HB5 : Hid (Below w.heap.size w (w4.alloc (.cells #[.int .i64 0, .int .i64 0, .string ⟨#[]⟩, .int .u64 0] 25))) := Lib.hid (HB3.out.trans (k5.toBelow _ HB3.out.size (by simp)))
  have hp4 := HV3.out.keeps (Keeps.below' hb4 []) (by simp)
  have c0 := hp4.cell 0
  have c1 := hp4.cell 1
  have c2 := hp4.cell 2
  have c3 := hp4.cell 3
  have l5 := hp4.lt
  simp only [List.getElem?_cons_zero, List.getElem?_cons_succ] at c0 c1 c2 c3
  clear k5 hp5 hp4 h5 hb4 HT3 hW3
  go_wp2_with fail
  refine HU.out.mono ?_
  rintro e w6 ⟨rfl, rfl⟩
  clear HU
  go_wp2_with fail
  refine HO.out.mono ?_
  rintro e w7 ⟨rfl, hb7⟩
  have HB7 := Lib.hid (HB5.out.trans (hb7.mono HB5.out.size))
  clear HO hb7 c0 c1 c2 c3 l5
  go_wp2
  go_ret
  exact ⟨rfl, HB7.out⟩
end HeapD
end Go.Proofs.YtbkfmoplgcnejaaDoor
