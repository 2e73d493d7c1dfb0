/- From which places a way leads to the end: what lies in memory. -/
import Derived.Test.YtajhkogknpmnbaaDoorFlowG
import Derived.Maps.AppendAt
namespace Go.Proofs.YtajhkogknpmnbaaDoor
open Go.RowKit ObjM
namespace FlowD
open FlowM

set_option maxRecDepth 100000 in
/-- A number is put behind a row of numbers. -/
theorem app_int (ty : TypeId) {W : World} {B : Nat} {v : Value} {zs : List Int} (z : Int) (h : W.ownsRow B 3 1 v zs.length (zs.map (Value.int .i64))) (hn : zs.length ≤ 1000000) (hB : B ≤ W.heap.size) (ad c0 : Nat) (hc : W.cell? ⟨ad, 0, none⟩ = some (.int .i64 z)) :
    ∃ v2 W2, (Builtin.append_ #[26, 26] ty #[v, .slice (some ⟨ad, 0, none⟩) 1 c0]).run Tryd.prog W = .ok v2 W2 ∧ W2.ownsRow B 3 1 v2 (zs ++ [z]).length ((zs ++ [z]).map (Value.int .i64)) ∧ W.grownBy W2 v.ownBlock ∧ (v2.ownBlock = v.ownBlock ∨ ∃ g, v2.ownBlock = some g ∧ W.heap.size ≤ g) := by
  obtain ⟨i0, hi, hz0, hz1, hz2⟩ := info_fl
  obtain ⟨v2, w5, hrun, ho, hk5, -, hv5⟩ := run_append_own_at (P := Tryd.prog) (w := W) B 26 ty 3 i0 (.int .i64 0) 1 8 Tryd.underlying26 hi hz0 hz1 hz2 rfl (by decide) v _ _ h ⟨ad, 0, none⟩ 1 c0 [.int .i64 z] rfl
    (fun k u hk => by
      have hk1 := (List.getElem?_eq_some_iff.1 hk).1
      simp at hk1
      subst hk1
      simp at hk
      subst hk
      rw [fl_at]
      exact hc)
    (fun u hu => by simp at hu; rw [hu]; rfl) (by unfold maxLen; omega) (by omega) hB
  exact ⟨v2, w5, hrun, by simpa using ho, hk5, hv5.imp id (fun e => ⟨_, e, Nat.le_refl _⟩)⟩
/-- What is gathered: the places that lead to the end, and for each place those that lead to it. -/
structure EndAt (w : World) (B X A m : Nat) (vl : Value) (la : List Int) (vs : List Value) (ah : Nat → List Int) : Prop where
  x : Has w X 48 [.slice (some ⟨A, 0, none⟩) m m]
  a : Has w A 26 vs
  len : vs.length = m
  o : w.ownsRow B 3 1 vl la.length (la.map (Value.int .i64))
  r : ∀ (i : Nat) (v : Value), vs[i]? = some v → w.ownsRow B 3 1 v (ah i).length ((ah i).map (Value.int .i64))
  d : ∀ (i : Nat) (v : Value), vs[i]? = some v → ∀ g, v.ownBlock = some g → vl.ownBlock ≠ some g
  e : ∀ (i j : Nat) (u v : Value), vs[i]? = some u → vs[j]? = some v → i ≠ j → ∀ g, u.ownBlock = some g → v.ownBlock ≠ some g
  ba : B ≤ A
def updA (ah : Nat → List Int) (q : Nat) (n : Int) : Nat → List Int := fun i => if i = q then ah q ++ [n] else ah i
theorem EndAt.keeps {w w' : World} {B X A m : Nat} {vl : Value} {la : List Int} {vs : List Value} {ah : Nat → List Int} (h : EndAt w B X A m vl la vs ah) (k : Keeps [] w w') : EndAt w' B X A m vl la vs ah :=
  ⟨h.x.keeps k (by simp), h.a.keeps k (by simp), h.len, own_keeps h.o k (fun _ _ => by simp), fun i v hv => own_keeps (h.r i v hv) k (fun _ _ => by simp), h.d, h.e, h.ba⟩
/-- One more leads to the end. -/
theorem EndAt.last {w w' : World} {B X A m : Nat} {vl v2 : Value} {la : List Int} {vs : List Value} {ah : Nat → List Int} (h : EndAt w B X A m vl la vs ah) {z : Int} (ho : w'.ownsRow B 3 1 v2 (la ++ [z]).length ((la ++ [z]).map (Value.int .i64))) (hk : w.grownBy w' vl.ownBlock) (hv : v2.ownBlock = vl.ownBlock ∨ ∃ g, v2.ownBlock = some g ∧ w.heap.size ≤ g) :
    EndAt w' B X A m v2 (la ++ [z]) vs ah := by
  have k := Keeps.grown hk
  have hne : ∀ {t : TypeId} {X : Nat} {cs : List Value}, Has w X t cs → t ≠ 3 → X ∉ vl.ownBlock.toList := fun hX ht hm => own_ne h.o hX ht _ (by simpa using hm) rfl
  refine ⟨h.x.keeps k (hne h.x (by decide)), h.a.keeps k (hne h.a (by decide)), h.len, ho, ?_, ?_, h.e, h.ba⟩
  · intro i v hi
    exact own_keeps (h.r i v hi) k (fun g hg hm => h.d i v hi g hg (by simpa using hm))
  · intro i v hi g hg e
    rcases hv with e2 | ⟨g', e2, hge⟩
    · exact h.d i v hi g hg (by rw [← e2]; exact e)
    · rw [e2] at e
      injection e with e
      have := (own_lt (h.r i v hi) g hg).2
      omega
/-- One more leads to a place. -/
theorem EndAt.put {w w' : World} {B X A m q : Nat} {vl v v2 : Value} {la : List Int} {vs : List Value} {ah : Nat → List Int} (h : EndAt w B X A m vl la vs ah) (hq : vs[q]? = some v) {z : Int} (ho : w'.ownsRow B 3 1 v2 (ah q ++ [z]).length ((ah q ++ [z]).map (Value.int .i64))) (hk : w.grownBy w' v.ownBlock) (hv : v2.ownBlock = v.ownBlock ∨ ∃ g, v2.ownBlock = some g ∧ w.heap.size ≤ g) :
    EndAt (w'.setCell ⟨A, q, none⟩ v2) B X A m vl la (vs.set q v2) (updA ah q z) := by
  have k := Keeps.grown hk
  have hne : ∀ {t : TypeId} {X : Nat} {cs : List Value}, Has w X t cs → t ≠ 3 → X ∉ v.ownBlock.toList := fun hX ht hm => own_ne (h.r q v hq) hX ht _ (by simpa using hm) rfl
  have hql := (List.getElem?_eq_some_iff.1 hq).1
  have hA := h.a.keeps k (hne h.a (by decide))
  have kA := Keeps.set w' A q v2
  have hnA : ∀ {u : Value} {n : Nat} {xs : List Value}, w'.ownsRow B 3 1 u n xs → ∀ g, u.ownBlock = some g → g ∉ [A] := fun hu g hg hm => own_ne hu hA (by decide) g hg (by simpa using hm)
  have hX := h.x.keeps k (hne h.x (by decide))
  have hvl : w'.ownsRow B 3 1 vl la.length (la.map (Value.int .i64)) := own_keeps h.o k (fun g hg hm => h.d q v hq g (by simpa using hm) hg)
  have hget : ∀ (i : Nat) (u : Value), (vs.set q v2)[i]? = some u → (i = q ∧ u = v2) ∨ (i ≠ q ∧ vs[i]? = some u) := by
    intro i u hi
    rw [List.getElem?_set] at hi
    split at hi
    · rename_i e
      subst e
      injection hi with hi
      exact .inl ⟨rfl, hi.symm⟩
    · rename_i e
      exact .inr ⟨fun e2 => e e2.symm, hi⟩
  have hfresh : ∀ (u : Value) (n : Nat) (xs : List Value), w.ownsRow B 3 1 u n xs → (∀ g, u.ownBlock = some g → v.ownBlock ≠ some g) → ∀ g, u.ownBlock = some g → v2.ownBlock ≠ some g := by
    intro u n xs hu hd g hg e
    rcases hv with e2 | ⟨g', e2, hge⟩
    · exact hd g hg (by rw [← e2]; exact e)
    · rw [e2] at e
      injection e with e
      have := (own_lt hu g hg).2
      omega
  refine ⟨hX.keeps kA (by simpa using hX.ne hA (by decide)), hA.set q v2, by simpa using h.len, own_keeps hvl kA (hnA hvl), ?_, ?_, ?_, h.ba⟩
  · intro i u hi
    rcases hget i u hi with ⟨rfl, rfl⟩ | ⟨hne2, hi2⟩
    · have e : updA ah i z i = ah i ++ [z] := by simp [updA]
      rw [e]
      exact own_keeps ho kA (hnA ho)
    · have e : updA ah q z i = ah i := by simp [updA, hne2]
      rw [e]
      have hu : w'.ownsRow B 3 1 u (ah i).length ((ah i).map (Value.int .i64)) := own_keeps (h.r i u hi2) k (fun g hg hm => h.e i q u v hi2 hq hne2 g hg (by simpa using hm))
      exact own_keeps hu kA (hnA hu)
  · intro i u hi g hg
    rcases hget i u hi with ⟨rfl, rfl⟩ | ⟨hne2, hi2⟩
    · intro e
      exact hfresh vl _ _ h.o (fun g hg e => h.d i v hq g e hg) g e hg
    · exact h.d i u hi2 g hg
  · intro i j u x hi hj hij g hg
    rcases hget i u hi with ⟨rfl, rfl⟩ | ⟨h1, hi2⟩
    · rcases hget j x hj with ⟨rfl, rfl⟩ | ⟨h2, hj2⟩
      · exact absurd rfl hij
      · intro e
        exact hfresh x _ _ (h.r j x hj2) (fun g hg e => h.e j i x v hj2 hq h2 g hg e) g e hg
    · rcases hget j x hj with ⟨rfl, rfl⟩ | ⟨h2, hj2⟩
      · exact hfresh u _ _ (h.r i u hi2) (fun g hg e => h.e i j u v hi2 hq h1 g hg e) g hg
      · exact h.e i j u x hi2 hj2 hij g hg
/-- What was gathered of the first n places, and of some of the next one's list. -/
structure EndP (next : Nat → List Int) (m n : Nat) (done : List Int) (la : List Int) (ah : Nat → List Int) : Prop where
  l : ∀ x : Nat, (x : Int) ∈ la ↔ (x < n ∧ (-1 : Int) ∈ next x) ∨ (x = n ∧ (-1 : Int) ∈ done)
  a : ∀ x y : Nat, (x : Int) ∈ ah y ↔ (x < n ∧ (y : Int) ∈ next x) ∨ (x = n ∧ (y : Int) ∈ done)
  bl : ∀ z ∈ la, 0 ≤ z ∧ z < m
  ba : ∀ y, ∀ z ∈ ah y, 0 ≤ z ∧ z < m
  sl : la.length ≤ 2 * n + done.length
  sa : ∀ y, (ah y).length ≤ 2 * n + done.length
theorem endP_start (next : Nat → List Int) (m : Nat) : EndP next m 0 [] [] (fun _ => []) := ⟨by simp, by simp, by simp, by simp, by simp, by simp⟩
theorem EndP.row {next : Nat → List Int} {m n : Nat} {la : List Int} {ah : Nat → List Int} (h : EndP next m n (next n) la ah) (hl : (next n).length ≤ 2) : EndP next m (n + 1) [] la ah := by
  have key : ∀ x : Nat, ∀ P : Nat → Prop, ((x < n ∧ P x) ∨ (x = n ∧ P n)) ↔ (x < n + 1 ∧ P x) ∨ (x = n + 1 ∧ False) := by
    intro x P
    constructor
    · rintro (⟨h1, h2⟩ | ⟨rfl, h2⟩)
      · exact .inl ⟨by omega, h2⟩
      · exact .inl ⟨by omega, h2⟩
    · rintro (⟨h1, h2⟩ | ⟨_, h2⟩)
      · by_cases e : x = n
        · subst e
          exact .inr ⟨rfl, h2⟩
        · exact .inl ⟨by omega, h2⟩
      · exact h2.elim
  refine ⟨fun x => ?_, fun x y => ?_, h.bl, h.ba, ?_, fun y => ?_⟩
  · rw [h.l x, key x (fun x => (-1 : Int) ∈ next x)]
    simp
  · rw [h.a x y, key x (fun x => (y : Int) ∈ next x)]
    simp
  · have := h.sl
    simp
    omega
  · have := h.sa y
    simp
    omega
theorem EndP.stop {next : Nat → List Int} {m n : Nat} {done la : List Int} {ah : Nat → List Int} (h : EndP next m n done la ah) (hn : n < m) : EndP next m n (done ++ [-1]) (la ++ [(n : Int)]) ah := by
  refine ⟨fun x => ?_, fun x y => ?_, ?_, h.ba, ?_, fun y => ?_⟩
  · rw [List.mem_append, h.l x, List.mem_append]
    constructor
    · rintro ((h1 | ⟨h1, h2⟩) | h1)
      · exact .inl h1
      · exact .inr ⟨h1, .inl h2⟩
      · simp at h1
        exact .inr ⟨by omega, .inr (by simp)⟩
    · rintro (h1 | ⟨rfl, h2⟩)
      · exact .inl (.inl h1)
      · exact .inr (by simp)
  · rw [h.a x y, List.mem_append]
    have e : ¬ ((y : Int) ∈ [(-1 : Int)]) := by simp
    simp only [e, or_false]
  · intro z hz
    rcases List.mem_append.1 hz with h1 | h1
    · exact h.bl z h1
    · simp at h1
      omega
  · have := h.sl
    simp
    omega
  · have := h.sa y
    simp
    omega
theorem EndP.lead {next : Nat → List Int} {m n q : Nat} {done la : List Int} {ah : Nat → List Int} (h : EndP next m n done la ah) (hn : n < m) : EndP next m n (done ++ [(q : Int)]) la (updA ah q (n : Int)) := by
  refine ⟨fun x => ?_, fun x y => ?_, h.bl, ?_, ?_, fun y => ?_⟩
  · rw [h.l x, List.mem_append]
    have e : ¬ ((-1 : Int) ∈ [(q : Int)]) := by simp
    simp only [e, or_false]
  · by_cases e : y = q
    · subst e
      have e2 : updA ah y (n : Int) y = ah y ++ [(n : Int)] := by simp [updA]
      rw [e2, List.mem_append, h.a x y, List.mem_append]
      constructor
      · rintro ((h1 | ⟨h1, h2⟩) | h1)
        · exact .inl h1
        · exact .inr ⟨h1, .inl h2⟩
        · simp at h1
          exact .inr ⟨by omega, .inr (by simp)⟩
      · rintro (h1 | ⟨rfl, h2⟩)
        · exact .inl (.inl h1)
        · exact .inr (by simp)
    · have e2 : updA ah q (n : Int) y = ah y := by simp [updA, e]
      rw [e2, h.a x y, List.mem_append]
      have e3 : ¬ ((y : Int) ∈ [(q : Int)]) := by simp; omega
      simp only [e3, or_false]
  · intro y z hz
    by_cases e : y = q
    · subst e
      have e2 : updA ah y (n : Int) y = ah y ++ [(n : Int)] := by simp [updA]
      rw [e2] at hz
      rcases List.mem_append.1 hz with h1 | h1
      · exact h.ba y z h1
      · simp at h1
        omega
    · have e2 : updA ah q (n : Int) y = ah y := by simp [updA, e]
      rw [e2] at hz
      exact h.ba y z hz
  · have := h.sl
    simp
    omega
  · have h1 := h.sa y
    have h2 := h.sa q
    by_cases e : y = q
    · subst e
      simp [updA]
      omega
    · simp [updA, e]
      omega
end FlowD
end Go.Proofs.YtajhkogknpmnbaaDoor
namespace Go.Proofs.YtajhkogknpmnbaaDoor
open Go.RowKit ObjM
namespace FlowD
open FlowM

set_option maxRecDepth 100000 in
set_option maxHeartbeats 4000000 in
theorem ahead_any (X A m n : Nat) (v : Value) (vs : List Value) (w : World) (hx : Has w X 48 [.slice (some ⟨A, 0, none⟩) m m]) (ha : Has w A 26 vs) (hl : vs.length = m) (hv : vs[n]? = some v) :
    Calls Tryd.prog 50 #[.int .i64 (n : Int), .pointer (some ⟨X, 0, none⟩)] w fun e w' => e = .returned v ∧ w = w' := by
  have c := hx.cell 0
  have l := hx.lt
  have ca := (ha.cell n).trans hv
  have la := ha.lt
  simp only [List.getElem?_cons_zero] at c
  have hn := (List.getElem?_eq_some_iff.1 hv).1
  have hi1 : (n : Int) < (m : Int) := by omega
  have hi0 : (0 : Int) ≤ (n : Int) := by omega
  clear hx ha hl hv hn
  go_enter Tryd.func50, Tryd.ntmps50
  go_wp2
  go_ret
  exact ⟨rfl, rfl⟩
/-- Those from which a way leads to the end. -/
def EndIs (w : World) (next : Nat → List Int) (m : Nat) (e : Ending) (w' : World) : Prop :=
  ∃ (v : Value) (l : List Int), e = .returned v ∧ w'.ownsRow w.heap.size 3 1 v l.length (l.map (Value.int .i64)) ∧ l.Nodup ∧ (∀ z ∈ l, 0 ≤ z ∧ z < m) ∧ (∀ x : Nat, (x : Int) ∈ l ↔ Live (fun n => (next n).map toO) x) ∧ Below w.heap.size w w'
theorem info_rows : ∃ i, Tryd.prog.info? 26 = some i ∧ i.zero = some (.slice none 0 0) ∧ i.size = 1 ∧ i.bytes = 24 := by
  have h := infoRows
  rcases e : Tryd.prog.info? 26 with _ | i
  · rw [e] at h
    cases h
  · rw [e] at h
    simp at h
    exact ⟨i, rfl, h.1, h.2.1, h.2.2⟩
theorem end_live {next : Nat → List Int} {m : Nat} {la : List Int} {ah : Nat → List Int} {st : Nat × List Int} (hm : m ≤ 64) (hr : ∀ n z, z ∈ next n → z = -1 ∨ 0 ≤ z ∧ z < m) (hout : ∀ n, m ≤ n → next n = []) (h : EndP next m m [] la ah) (hs : Spd ah la 0 st st.2.length) (x : Nat) : (x : Int) ∈ st.2 ↔ Live (fun n => (next n).map toO) x := by
  have e1 := spd_end (fun z hz => .inr (by have := h.bl z hz; omega)) (fun n _ z hz => .inr (by have := h.ba n z hz; omega)) hs x
  have e2 : (fun n => (0 : Nat).testBit n) = fun _ => false := by funext n; simp
  rw [e1, e2]
  have hw : ∀ {n z}, z ∈ next n → z = -1 ∨ 0 ≤ z ∧ z < 64 := fun hz => (hr _ _ hz).imp id (fun h => ⟨h.1, by omega⟩)
  refine live_iff (next := fun n => (next n).map toO) (fun n => ?_) (fun n k => ?_)
  · rw [mem_toO (fun z hz => .inr (by have := h.bl z hz; omega)), h.l n, mem_toO_none]
    constructor
    · rintro (⟨_, h1⟩ | ⟨_, h1⟩)
      · exact h1
      · simp at h1
    · intro h1
      refine .inl ⟨?_, h1⟩
      apply Nat.lt_of_not_le
      intro hle
      rw [hout n hle] at h1
      simp at h1
  · rw [mem_toO (fun z hz => .inr (by have := h.ba k z hz; omega)), h.a n k, mem_toO (fun z hz => hw hz)]
    constructor
    · rintro (⟨_, h1⟩ | ⟨_, h1⟩)
      · exact h1
      · simp at h1
    · intro h1
      refine .inl ⟨?_, h1⟩
      apply Nat.lt_of_not_le
      intro hle
      rw [hout n hle] at h1
      simp at h1
/-- append as one step of a region that draws its order: what it leaves is told by a predicate. -/
theorem step_append_ex {P : Program} {ops : Array Oper} {o : Oper} {a : Act} {w : World} {K : Act → World → Prop} {Q : Exit → Act → World → Prop} {E : Prop}
    (hg : o.guard = none) (s x : Operand) (t : TypeId) (hop : o.op = Op.call { callee := Callee.builtin Builtin.append, args := #[s, x], argTypes := #[t, t] })
    (v u : Value) (hs : a.eval s = v) (hx : a.eval x = u) (R : Value → World → Prop) (hrun : ∃ v' w', (Builtin.append_ #[t, t] o.type #[v, u]).run P w = .ok v' w' ∧ R v' w')
    (hK : ∀ v' w', R v' w' → K (a.put o.dst v') w') :
    if Region.wanted o (yielded ops a.tmps) = true then Oper.wp P o a w K Q else E := by
  have hw : Region.wanted o (yielded ops a.tmps) = true := by simp [Region.wanted, hg]
  rw [if_pos hw]
  subst hs hx
  obtain ⟨v', w', hrun, hr⟩ := hrun
  unfold Oper.wp
  simp [execOp, hop, resolve, invoke, builtin, hrun, Result.andThen]
  exact hK v' w' hr
theorem own_slice_of {w : World} {B n : Nat} {v : Value} {xs : List Value} (h : w.ownsRow B 3 1 v n xs) : ∃ a k c, v = .slice a k c := by
  rcases own_shape h with ⟨rfl, _⟩ | ⟨g, cap, cs, rfl, _⟩
  · exact ⟨_, _, _, rfl⟩
  · exact ⟨_, _, _, rfl⟩
/-- What stands in memory while the ends are gathered. -/
def EndS (w wr : World) (X m : Nat) (next : Nat → List Int) (n : Nat) (done : List Int) (vl : Value) : Prop := ∃ la vs ah, EndAt wr w.heap.size X w.heap.size m vl la vs ah ∧ EndP next m n done la ah ∧ Below w.heap.size w wr
/-- A place leads to the end: put behind the last ones. -/
theorem endS_last {w wr : World} {X m : Nat} {next : Nat → List Int} {n : Nat} {done : List Int} {vl : Value} (h : EndS w wr X m next n done vl) (hn : n < m) (hm : m ≤ 64) (hd : done.length ≤ 2) :
    ∃ v2 W2, (Builtin.append_ #[26, 26] 26 #[vl, .slice (some ⟨wr.heap.size, 0, none⟩) 1 1]).run Tryd.prog (wr.alloc (.cells #[.int .i64 (n : Int)] 3)) = .ok v2 W2 ∧ Hid (EndS w W2 X m next n (done ++ [-1]) v2) := by
  obtain ⟨la, vs, ah, h1, h2, h3⟩ := h
  have k := Keeps.alloc [] wr (.cells #[.int .i64 (n : Int)] 3)
  have h4 := h1.keeps k
  obtain ⟨v2, W2, hrun, ho, hg, hv⟩ := app_int 26 (W := wr.alloc (.cells #[.int .i64 (n : Int)] 3)) (n : Int) h4.o (by have := h2.sl; omega) (by have := h3.size; simp; omega) wr.heap.size 1 ((Has.new wr 3 [.int .i64 (n : Int)]).cell 0)
  refine ⟨v2, W2, hrun, Lib.hid ⟨la ++ [(n : Int)], vs, ah, h4.last ho hg hv, h2.stop hn, ?_⟩⟩
  have hb := h3.trans (k.toBelow w.heap.size h3.size (by simp))
  exact hb.grown hg hb.size (fun g hg' => (own_lt h4.o g hg').1)
/-- A place leads to another one: put behind those that lead to it. -/
theorem endS_put {w wr : World} {X m : Nat} {next : Nat → List Int} {n q : Nat} {done : List Int} {vl : Value} (h : EndS w wr X m next n done vl) (hn : n < m) (hq : q < m) (hm : m ≤ 64) (hd : done.length ≤ 2) :
    ∃ v a k c, Hid (v = .slice a k c) ∧ wr.cell? ⟨w.heap.size, q, none⟩ = some v ∧ ∃ v2 W2, (Builtin.append_ #[26, 26] 26 #[v, .slice (some ⟨wr.heap.size, 0, none⟩) 1 1]).run Tryd.prog (wr.alloc (.cells #[.int .i64 (n : Int)] 3)).drew = .ok v2 W2 ∧
      (Hid (EndS w (W2.setCell ⟨w.heap.size, q, none⟩ v2) X m next n (done ++ [(q : Int)]) vl) ∧ (∃ a k c, v2 = .slice a k c) ∧ W2.cell? ⟨X, 0, none⟩ = some (.slice (some ⟨w.heap.size, 0, none⟩) m m) ∧ X < W2.heap.size ∧ W2.cell? ⟨w.heap.size, q, none⟩ = some v ∧ w.heap.size < W2.heap.size ∧ W2.frozen? ⟨w.heap.size, q, none⟩ = false) := by
  obtain ⟨la, vs, ah, h1, h2, h3⟩ := h
  have k : Keeps [] wr (wr.alloc (.cells #[.int .i64 (n : Int)] 3)).drew := (Keeps.alloc [] wr (.cells #[.int .i64 (n : Int)] 3)).trans (Keeps.drew [] _) (by simp)
  have h4 := h1.keeps k
  have hv : vs[q]? = some (vs[q]'(by rw [h1.len]; exact hq)) := List.getElem?_eq_getElem _
  generalize vs[q]'(by rw [h1.len]; exact hq) = v at hv
  obtain ⟨a, k', c, hsh⟩ := own_slice_of (h1.r q v hv)
  obtain ⟨v2, W2, hrun, ho, hg, hv2⟩ := app_int 26 (W := (wr.alloc (.cells #[.int .i64 (n : Int)] 3)).drew) (n : Int) (h4.r q v hv) (by have := h2.sa q; omega) (by have := h3.size; show _ ≤ (wr.alloc _).heap.size; simp; omega) wr.heap.size 1 ((Has.new wr 3 [.int .i64 (n : Int)]).cell 0)
  have h5 := h4.put hv ho hg hv2
  have kg := Keeps.grown hg
  have hne : ∀ {t : TypeId} {X : Nat} {cs : List Value}, Has (wr.alloc (.cells #[.int .i64 (n : Int)] 3)).drew X t cs → t ≠ 3 → X ∉ v.ownBlock.toList := fun hX ht hm => own_ne (h4.r q v hv) hX ht _ (by simpa using hm) rfl
  have hx := h4.x.keeps kg (hne h4.x (by decide))
  have ha := h4.a.keeps kg (hne h4.a (by decide))
  have hb := h3.trans (k.toBelow w.heap.size h3.size (by simp))
  have hb2 := hb.grown hg hb.size (fun g hg' => (own_lt (h4.r q v hv) g hg').1)
  refine ⟨v, a, k', c, Lib.hid hsh, (h1.a.cell q).trans hv, v2, W2, hrun, Lib.hid ⟨la, _, _, h5, h2.lead hn, hb2.setCell (p := ⟨w.heap.size, q, none⟩) (Nat.le_refl _) _⟩, own_slice_of ho, by simpa using hx.cell 0, hx.lt, (ha.cell q).trans hv, ha.lt, ha.frozen q⟩
end FlowD
end Go.Proofs.YtajhkogknpmnbaaDoor
