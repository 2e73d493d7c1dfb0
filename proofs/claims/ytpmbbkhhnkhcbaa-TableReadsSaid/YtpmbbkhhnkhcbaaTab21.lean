/- Stamps: what they are, whether one fits, copies of them. -/
import Derived.Test.YtpmbbkhhnkhcbaaTab19
import Derived.Maps.AppendAt
import Derived.Lib.SliceRun
namespace Go.Proofs.Ytpmbbkhhnkhcbaa
open Go.RowKit ObjM Go.Maps
namespace TabD
open LabelM LabelD ValD

/-- A stamp. -/
abbrev St := ByteArray × Int
def rowS (ss : List St) : List Value := ss.flatMap fun s => [Value.string s.1, Value.int .i64 s.2]
theorem rowS_len (ss : List St) : (rowS ss).length = ss.length * 2 := by
  induction ss with
  | nil => rfl
  | cons a r ih => simp [rowS] at ih ⊢; omega
theorem rowS_at : ∀ (l : List St) (i : Nat) (e : St), l[i]? = some e → (rowS l)[i * 2]? = some (.string e.1) ∧ (rowS l)[i * 2 + 1]? = some (.int .i64 e.2)
  | [], i, e, h => by simp at h
  | a :: r, 0, e, h => by
    simp at h
    subst h
    exact ⟨rfl, rfl⟩
  | a :: r, i + 1, e, h => by
    have ih := rowS_at r i e (by simpa using h)
    have e1 : (i + 1) * 2 = i * 2 + 1 + 1 := by omega
    rw [e1]
    exact ih
theorem rowS_snoc (l : List St) (e : St) : rowS (l ++ [e]) = rowS l ++ [Value.string e.1, Value.int .i64 e.2] := by simp [rowS]
/-- What a name is told by. -/
def key8 (s : ByteArray) : List UInt8 := s.data.toList
/-- A map of names to places. -/
def NamedOk (w : World) (B : Nat) (nm : Option Nat) (N : Nat) (f : List UInt8 → Option Nat) : Prop :=
  match nm with
  | none => ∀ k, f k = none
  | some b => B ≤ b ∧ ∃ (D : DataW Unit), w.ownsMap Try.prog 9 (plainElem Try.prog 3) b N D ∧
      ∀ k : List UInt8, Maps.has D (.string k) = (f k).isSome ∧ D.atKey (.string k) (.lit (.int .i64 0)) = .lit (.int .i64 (((f k).getD 0 : Nat) : Int))
theorem key_str (s : ByteArray) (hs : s.size ≤ 140737488355328) : keyOf Try.prog 9 (.string s) = some (.string (key8 s)) := Go.WideMaps.keyOf_string_mk Try.underlying9 (by unfold maxLen; omega)
theorem look_name {w : World} {B : Nat} {nm : Option Nat} {N : Nat} {f : List UInt8 → Option Nat} (h : NamedOk w B nm N f) (s : ByteArray) (hs : s.size ≤ 140737488355328) :
    (Instr.lookup 64 (.map nm) (.string s) true).run Try.prog w = .ok (.tuple #[.int .i64 (((f (key8 s)).getD 0 : Nat) : Int), .bool (f (key8 s)).isSome]) w := by
  have hkl := key_str s hs
  cases nm with
  | none =>
    rw [Maps.look_nil true keyedStr Try.underlying64 (zeroInt w) hkl, h (key8 s)]
    rfl
  | some b =>
    obtain ⟨_, D, hD, hq⟩ := h
    obtain ⟨h1, h2⟩ := hq (key8 s)
    obtain ⟨u, ps, hrun, hu⟩ := hD.look_ok keyedStr Try.underlying64 (zeroInt w) (plainElem_int Try.underlying3 (by decide)) hkl
    rw [h2] at hu
    obtain ⟨a, rfl, hz, _⟩ := plainElem_int_inv Try.underlying3 hu
    simp at hz
    rw [hrun, h1, hz.1]
theorem NamedOk.block {w w' : World} {B : Nat} {nm : Option Nat} {N : Nat} {f : List UInt8 → Option Nat} (h : NamedOk w B nm N f) (hk : ∀ b, nm = some b → w'.heap[b]? = w.heap[b]?) : NamedOk w' B nm N f := by
  cases nm with
  | none => exact h
  | some b =>
    obtain ⟨h0, D, ⟨es, cl, hb, h3⟩, hq⟩ := h
    exact ⟨h0, D, ⟨es, cl, (hk b rfl).trans hb, h3⟩, hq⟩
theorem NamedOk.lt {w : World} {B b : Nat} {N : Nat} {f : List UInt8 → Option Nat} (h : NamedOk w B (some b) N f) : b < w.heap.size := by
  obtain ⟨_, D, hD, _⟩ := h
  exact hD.lt
theorem NamedOk.ne {w : World} {B b G : Nat} {N : Nat} {f : List UInt8 → Option Nat} {t : TypeId} {cs : List Value} (h : NamedOk w B (some b) N f) (hG : Has w G t cs) : b ≠ G := by
  obtain ⟨_, D, ⟨es, cl, hb, _⟩, _⟩ := h
  rintro rfl
  rw [show w.heap[b]? = _ from hG] at hb
  cases hb
theorem NamedOk.ext {w : World} {B : Nat} {nm : Option Nat} {N : Nat} {f g : List UInt8 → Option Nat} (h : NamedOk w B nm N f) (hfg : ∀ k, f k = g k) : NamedOk w B nm N g := by
  have : f = g := funext hfg
  rw [← this]
  exact h
theorem NamedOk.keeps {w w' : World} {B : Nat} {nm : Option Nat} {N : Nat} {f : List UInt8 → Option Nat} {S : List Nat} (h : NamedOk w B nm N f) (k : Keeps S w w') (hS : ∀ b, nm = some b → b ∉ S) : NamedOk w' B nm N f :=
  h.block fun b hb => by
    subst hb
    exact k.block b h.lt (hS b rfl)
theorem NamedOk.below {w w' : World} {B : Nat} {nm : Option Nat} {N : Nat} {f : List UInt8 → Option Nat} (h : NamedOk w B nm N f) (hb : Below w.heap.size w w') : NamedOk w' B nm N f := h.keeps (Keeps.below' hb []) (by simp)
/-- Where a name's stamp stands. -/
def nameAt (ss : List St) (k : List UInt8) : Option Nat := ss.findIdx? fun x => key8 x.1 == k
theorem nameAt_some {ss : List St} {k : List UInt8} {i : Nat} (h : nameAt ss k = some i) : ∃ f, ss[i]? = some f ∧ key8 f.1 = k := by
  unfold nameAt at h
  rw [List.findIdx?_eq_some_iff_getElem] at h
  obtain ⟨hi, h1, _⟩ := h
  exact ⟨ss[i], List.getElem?_eq_getElem hi, by simpa using h1⟩
theorem nameAt_snoc (ss : List St) (e : St) (k : List UInt8) : nameAt (ss ++ [e]) k = match nameAt ss k with | some i => some i | none => if key8 e.1 = k then some ss.length else none := by
  unfold nameAt
  rw [List.findIdx?_append]
  cases h : ss.findIdx? (fun x => key8 x.1 == k) with
  | some i => simp
  | none => by_cases hs : key8 e.1 = k <;> simp [hs, List.findIdx?_cons]
theorem nameAt_set (ss : List St) (i : Nat) (e : St) (he : ss[i]? = some e) (y : Int) (k : List UInt8) : nameAt (ss.set i (e.1, y)) k = nameAt ss k := by
  induction ss generalizing i with
  | nil => simp at he
  | cons a r ih =>
    cases i with
    | zero =>
      simp at he
      subst he
      simp [nameAt, List.findIdx?_cons]
    | succ i =>
      have := ih i (by simpa using he)
      unfold nameAt at this ⊢
      simp only [List.set_cons_succ, List.findIdx?_cons]
      split
      · rfl
      · rw [this]
/-- Whether the stamp of a name, if there is one, lets a kind be. -/
def fitB (ss : List St) (k : List UInt8) (kd : Int) : Bool := match ss.find? (fun x => key8 x.1 == k) with | none => true | some e => mayB e.2 kd
theorem find_of_nameAt {ss : List St} {k : List UInt8} : ss.find? (fun x => key8 x.1 == k) = (nameAt ss k).bind fun i => ss[i]? := by
  induction ss with
  | nil => rfl
  | cons a r ih =>
    unfold nameAt at ih ⊢
    rw [List.find?_cons, List.findIdx?_cons]
    by_cases h : key8 a.1 == k
    · simp [h]
    · simp only [h]
      rw [ih]
      cases r.findIdx? (fun x => key8 x.1 == k) <;> simp
theorem fitB_none {ss : List St} {k : List UInt8} {kd : Int} (h : nameAt ss k = none) : fitB ss k kd = true := by
  unfold fitB
  rw [find_of_nameAt, h]
  rfl
theorem fitB_some {ss : List St} {k : List UInt8} {kd : Int} {i : Nat} {e : St} (h : nameAt ss k = some i) (he : ss[i]? = some e) : fitB ss k kd = mayB e.2 kd := by
  unfold fitB
  rw [find_of_nameAt, h]
  simp [he]
def StOk (s : St) : Prop := s.1.size ≤ 140737488355328 ∧ (-9223372036854775808 ≤ s.2 ∧ s.2 ≤ 9223372036854775807)
/-- A table's stamps. -/
def IsS (w : World) (B : Nat) (sv : Value) (nm : Option Nat) (N : Nat) (ss : List St) : Prop :=
  w.ownsRow B 44 2 sv ss.length (rowS ss) ∧ NamedOk w B nm N (nameAt ss) ∧ (∀ s ∈ ss, StOk s) ∧ ss.length ≤ N ∧ N ≤ 1000000
theorem IsS.keeps {w w' : World} {B : Nat} {sv : Value} {nm : Option Nat} {N : Nat} {ss : List St} {S : List Nat} (h : IsS w B sv nm N ss) (k : Keeps S w w') (h1 : ∀ b, sv.ownBlock = some b → b ∉ S) (h2 : ∀ b, nm = some b → b ∉ S) : IsS w' B sv nm N ss :=
  ⟨own_keeps h.1 k h1, h.2.1.keeps k h2, h.2.2⟩
theorem IsS.below {w w' : World} {B : Nat} {sv : Value} {nm : Option Nat} {N : Nat} {ss : List St} (h : IsS w B sv nm N ss) (hb : Below w.heap.size w w') : IsS w' B sv nm N ss := h.keeps (Keeps.below' hb []) (by simp) (by simp)

set_option maxRecDepth 100000 in
set_option maxHeartbeats 1000000 in
theorem fits_any (B T lab N : Nat) (fs : List Fd) (fv sv : Value) (pm nm : Option Nat) (ss : List St) (s : ByteArray) (hs : s.size ≤ 140737488355328) (kd : Int) (w : World) (h : IsT w B T lab fs fv pm sv (.map nm)) (hS : IsS w B sv nm N ss) :
    Calls Try.prog 34 #[.pointer (some ⟨T, 0, none⟩), .string s, .int .i64 kd] w fun e w' => e = .returned (.bool (fitB ss (key8 s) kd)) ∧ Below w.heap.size w w' := by
  have h3 := h.1.cell 3
  have h4 := h.1.cell 4
  have hl := h.1.lt
  simp only [List.getElem?_cons_zero, List.getElem?_cons_succ] at h3 h4
  have hlk := look_name hS.2.1 s hs
  cases hn : nameAt ss (key8 s) with
  | none =>
    rw [fitB_none hn]
    rw [hn] at hlk
    simp only [Option.getD_none, Option.isSome_none] at hlk
    clear h hn hs hS
    go_enter Try.func34, Try.ntmps34
    go_wp2
    go_ret
    exact ⟨rfl, Below.refl _ _⟩
  | some i =>
    obtain ⟨e, he, -⟩ := nameAt_some hn
    have hi : i < ss.length := (List.getElem?_eq_some_iff.1 he).1
    rw [fitB_some hn he]
    rw [hn] at hlk
    simp only [Option.getD_some, Option.isSome_some] at hlk
    have hM := fun W => Lib.hid (may_any e.2 kd W)
    obtain ⟨g, cap, hsv, hgl, hgc⟩ : ∃ g cap, sv = .slice (some ⟨g, 0, none⟩) ss.length cap ∧ g < w.heap.size ∧ w.cell? ⟨g, i * 2 + 1, none⟩ = some (.int .i64 e.2) := by
      have hO := hS.1
      rcases own_shape hO with ⟨_, h9, _⟩ | ⟨g, cap, cs, hsv, _, hh, _⟩
      · omega
      · rw [hsv] at hO
        obtain ⟨hj, hv7⟩ := List.getElem?_eq_some_iff.1 (rowS_at ss i e he).2
        exact ⟨g, cap, hsv, hh.lt, by rw [own_cell hO _ hj, hv7]⟩
    subst hsv
    have hi1 : (i : Int) < (ss.length : Int) := by omega
    have hi0 : (0 : Int) ≤ (i : Int) := by omega
    have hN := hS.2.2.2
    clear h hn hs he hS
    go_enter Try.func34, Try.ntmps34
    go_wp2_with fail
    refine ((hM _).out).mono ?_
    rintro e1 w1 ⟨rfl, rfl⟩
    go_wp2
    go_ret
    exact ⟨rfl, Below.refl _ _⟩
theorem infoSt : (Try.prog.info? 44).map (fun i => (i.zero, i.size, i.bytes)) = some (some (.agg #[.string ⟨#[]⟩, .int .i64 0]), 2, 24) := by kernel_rfl
def CloneIs (w : World) (n : Nat) (xs : List Value) (e : Ending) (w' : World) : Prop := ∃ v', e = .returned v' ∧ w'.ownsRow w.heap.size 44 2 v' n xs ∧ Below w.heap.size w w'
set_option maxRecDepth 100000 in
set_option maxHeartbeats 2000000 in
theorem clone_any (B : Nat) (sv : Value) (ss : List St) (w : World) (h : w.ownsRow B 44 2 sv ss.length (rowS ss)) (hn : ss.length ≤ 1000000) :
    Calls Try.prog 26 #[sv] w (CloneIs w ss.length (rowS ss)) := by
  rcases own_shape h with ⟨rfl, h9, hr⟩ | ⟨g, cap, cs, rfl, hBg, hh, hnc, hcm, hcl, htk⟩
  · rw [hr, h9]
    clear h h9 hr hn
    have hq : ∀ (W : World) (a : Option Addr) (n c n' c' : Nat), (binOp .eql 31 (.slice a n c) (.slice none n' c')).run Try.prog W = .ok (.bool a.isNone) W := fun W a n c n' c' => Lib.run_eql_slice_nil W _ _ a n c n' c' Try.underlying31
    go_enter Try.func26, Try.ntmps26
    go_wp2
    go_ret
    exact ⟨_, rfl, World.ownsRow_nil _ _ _ _, Below.refl _ _⟩
  · obtain ⟨i0, hi, hz0, hz1, hz2⟩ := info_parts infoSt
    have hlen := rowS_len ss
    have H := Lib.hid h
    obtain ⟨n, hnn⟩ : ∃ n, ss.length = n := ⟨_, rfl⟩
    rw [hnn] at hlen hn H ⊢
    obtain ⟨xs, hxs⟩ : ∃ xs, rowS ss = xs := ⟨_, rfl⟩
    rw [hxs] at hlen H ⊢
    have H1 : ∀ u ∈ xs, u.oneCell' = true := by
      rw [← hxs]
      intro u hu
      obtain ⟨s, _, hs⟩ := List.mem_flatMap.1 hu
      rcases List.mem_cons.1 hs with rfl | hs
      · rfl
      · rcases List.mem_cons.1 hs with rfl | hs
        · rfl
        · simp at hs
    have HO := Lib.hid H1
    clear H1 h hnn hxs htk hcl hh hnc hcm
    have hq : ∀ (W : World) (a : Option Addr) (n c n' c' : Nat), (binOp .eql 31 (.slice a n c) (.slice none n' c')).run Try.prog W = .ok (.bool a.isNone) W := fun W a n c n' c' => Lib.run_eql_slice_nil W _ _ a n c n' c' Try.underlying31
    go_enter Try.func26, Try.ntmps26
    go_wp2_with (at_builtin; refine wpList_append_own _ rfl _ _ 31 rfl w.heap.size 44 i0 (.agg #[.string ⟨#[]⟩, .int .i64 0]) 2 24 Try.underlying31 hi hz0 hz1 hz2 rfl (by decide) _ _ _ rfl (World.ownsRow_made w #[] 0 (Nat.le_refl _) (Nat.zero_le _) rfl) ⟨g, 0, none⟩ n cap xs rfl ?qc1 ?qc2 ?qc3 ?qc4 ?qc5 ?qc6 ?_)
    case qc1 => exact hlen
    case qc2 =>
      intro j u hj
      have hlt := (List.getElem?_eq_some_iff.1 hj).1
      rw [Addr.add_lit]
      refine Lib.cell?_alloc_some _ ?_
      rw [Nat.zero_add, own_cell H.out j hlt]
      exact (List.getElem?_eq_getElem hlt).symm.trans hj
    case qc3 => exact HO.out
    case qc4 => unfold maxLen; omega
    case qc5 => omega
    case qc6 => simp
    intro v' w1 hown hgrow hnil
    go_wp2
    go_ret
    refine ⟨v', rfl, by simpa using hown, ?_⟩
    exact ((Below.refl _ w).alloc (Nat.le_refl _) _).grown hgrow (by simp) (by intro k hk; simp [Value.ownBlock] at hk; omega)
set_option maxRecDepth 100000 in
set_option maxHeartbeats 2000000 in
theorem stamps_any (B T : Nat) (a b c d : Value) (sv : Value) (ss : List St) (w : World) (hT : Has w T 66 [a, b, c, sv, d]) (h : w.ownsRow B 44 2 sv ss.length (rowS ss)) (hn : ss.length ≤ 1000000) :
    Calls Try.prog 12 #[.pointer (some ⟨T, 0, none⟩)] w (CloneIs w ss.length (rowS ss)) := by
  have HC := Lib.hid (clone_any B sv ss w h hn)
  have h3 := hT.cell 3
  have hl := hT.lt
  simp only [List.getElem?_cons_zero, List.getElem?_cons_succ] at h3
  clear h hT hn
  go_enter Try.func12, Try.ntmps12
  go_wp2_with fail
  refine (HC.out).mono ?_
  rintro e w1 ⟨v', rfl, ho, hb⟩
  have HO := Lib.hid ho
  have HB := Lib.hid hb
  clear ho hb
  go_wp2
  go_ret
  exact ⟨v', rfl, HO.out, HB.out⟩
end TabD
end Go.Proofs.Ytpmbbkhhnkhcbaa
