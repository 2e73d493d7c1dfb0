/- Maps keyed by what of a value tells it from others. -/
import Derived.Test.YtpmbbkhhnkhcbaaVal
import Derived.Test.YtpmbbkhhnkhcbaaLoadAll
import Derived.Test.YtpmbbkhhnkhcbaaStoreAll
import Derived.DeepKeys5
import Derived.Lib.Strings
import Derived.Maps.OwnSet
import Derived.RegionTactic
import Derived.BigQuiet
import Derived.Outline
import Derived.Deep.RegionHeld3
import Derived.StillTailTactics
namespace Go.Proofs.Ytpmbbkhhnkhcbaa
open Go.RowKit ObjM Go.Maps
namespace TabD
open LabelM LabelD ValD

theorem laidOutP : laidOutB Try.prog = true := by kernel_rfl
theorem keyedId : Keyed Try.prog 76 := Keyed.of_law (deep_law_gate laidOutP (of_decide_eq_true (by kernel_rfl)) (of_decide_eq_true (by kernel_rfl)) (by kernel_rfl) (by kernel_rfl))
theorem keyedStr : Keyed Try.prog 9 := string_keyed Try.underlying9
/-- What of a value tells it from others, as a value. -/
def kval (v : V) : Value := .agg #[.int .i64 v.k, .int .i64 v.n, .string v.s]
def VOk (v : V) : Prop := (-9223372036854775808 ≤ v.k ∧ v.k ≤ 9223372036854775807) ∧ (-9223372036854775808 ≤ v.n ∧ v.n ≤ 9223372036854775807) ∧ v.s.size ≤ 140737488355328 ∧ v.l < M64
theorem id_desc : ∃ f0 f1 f2 : Field, Try.prog.underlying 76 = some (.struct #[f0, f1, f2]) ∧ (#[f0, f1, f2].all (·.name != "_")) = true ∧ (f0.offset = 0 ∧ Try.prog.cellsOf f0.type = 1 ∧ f0.type = 3) ∧ (f1.offset = 1 ∧ Try.prog.cellsOf f1.type = 1 ∧ f1.type = 2) ∧ (f2.offset = 2 ∧ Try.prog.cellsOf f2.type = 1 ∧ f2.type = 9) :=
  ⟨_, _, _, Try.underlying76, by kernel_rfl, ⟨by kernel_rfl, by kernel_rfl, by kernel_rfl⟩, ⟨by kernel_rfl, by kernel_rfl, by kernel_rfl⟩, ⟨by kernel_rfl, by kernel_rfl, by kernel_rfl⟩⟩
theorem idKey : Try.prog.keyType 76 = true := by kernel_rfl
theorem idCells : Try.prog.cellsOf 76 = 3 := by kernel_rfl
theorem wf_i64 {n : Int} (h : -9223372036854775808 ≤ n ∧ n ≤ 9223372036854775807) : (Lit.int .i64 n).wf = true := by
  simp [Lit.wf]
  exact ⟨h.1, h.2⟩
theorem key_of (v : V) (hv : VOk v) : ∃ kl, keyOf Try.prog 76 (kval v) = some kl := by
  obtain ⟨f0, f1, f2, hs, hnm, ⟨p0, q0, t0⟩, ⟨p1, q1, t1⟩, ⟨p2, q2, t2⟩⟩ := id_desc
  obtain ⟨m, hm⟩ : ∃ m, Try.prog.types.size = m + 1 := ⟨Try.prog.types.size - 1, by have : 0 < Try.prog.types.size := of_decide_eq_true (by kernel_rfl); omega⟩
  have hform : (kval v).formed Try.prog 76 = true := by simp [kval, Value.formed, hs, idCells]
  have h1 : Try.prog.keyLits (m + 1) 3 [.int .i64 v.k] = some [.int .i64 v.k] := by
    unfold Program.keyLits
    simp [Try.underlying3, wf_i64 hv.1]
  have h2 : Try.prog.keyLits (m + 1) 2 [.int .i64 v.n] = some [.int .i64 v.n] := by
    unfold Program.keyLits
    simp [Try.underlying2, wf_i64 hv.2.1]
  have h3 : Try.prog.keyLits (m + 1) 9 [.string v.s] = some [.string v.s.data.toList] := by
    unfold Program.keyLits
    have : v.s.size ≤ maxLen := by have := hv.2.2.1; unfold maxLen; omega
    simp [Try.underlying9, this]
  refine ⟨.string (keyBytes [.int .i64 v.k, .int .i64 v.n, .string v.s.data.toList]), ?_⟩
  unfold keyOf
  rw [hs]
  simp only
  rw [if_pos (by rw [idKey, hform]; rfl), hm]
  have hcl : (kval v).cells.toList = [.int .i64 v.k, .int .i64 v.n, .string v.s] := rfl
  rw [hcl]
  have : Try.prog.keyLits (m + 1 + 1) 76 [.int .i64 v.k, .int .i64 v.n, .string v.s] = some [.int .i64 v.k, .int .i64 v.n, .string v.s.data.toList] := by
    unfold Program.keyLits
    rw [t0] at q0
    rw [t1] at q1
    rw [t2] at q2
    simp only [hs]
    rw [if_pos ⟨by rw [idCells]; rfl, hnm⟩]
    simp only [List.mapM_cons, List.mapM_nil, p0, q0, t0, p1, q1, t1, p2, q2, t2, List.drop_zero, List.drop_succ_cons, List.take_succ_cons, List.take_zero, h1, h2, h3]
    rfl
  rw [this]
  rfl
/-- A field. -/
abbrev Fd := V × V
/-- Where the field of a key stands. -/
def placeOf (fs : List Fd) (v : V) : Option Nat := fs.findIdx? fun f => sameB f.1 v
theorem kval_inj {a b : V} (h : kval a = kval b) : sameB a b = true := by
  unfold kval at h
  injection h with h
  have h' := congrArg Array.toList h
  simp at h'
  obtain ⟨h1, h2, h3⟩ := h'
  simp [sameB, h1, h2, h3]
theorem kval_eq {a b : V} (h : sameB a b = true) : kval a = kval b := by
  simp [sameB] at h
  obtain ⟨⟨h1, h2⟩, h3⟩ := h
  have : a.s = b.s := by
    rw [Lib.toList_data, Lib.toList_data] at h3
    cases ha : a.s with | mk x => cases hb : b.s with | mk y =>
    rw [ha, hb] at h3
    have : x = y := Array.ext' h3
    rw [this]
  simp [kval, h1, h2, this]
def placeI (fs : List Fd) (v : V) : Int := match placeOf fs v with | some i => i | none => 0
def placeB (fs : List Fd) (v : V) : Bool := (placeOf fs v).isSome
/-- The places of the fields, as a map. -/
def PlacesOk (w : World) (B : Nat) (pm : Option Nat) (fs : List Fd) : Prop :=
  match pm with
  | none => fs = []
  | some b => B ≤ b ∧ ∃ (D : DataW Unit), w.ownsMap Try.prog 76 (plainElem Try.prog 3) b fs.length D ∧
      ∀ (v : V) (kl : Lit), VOk v → keyOf Try.prog 76 (kval v) = some kl → Maps.has D kl = placeB fs v ∧ D.atKey kl (.lit (.int .i64 0)) = .lit (.int .i64 (placeI fs v))
theorem zeroInt (w : World) : (zeroValue 3).run Try.prog w = .ok (.int .i64 0) w := by kernel_rfl
theorem look_places {w : World} {B : Nat} {pm : Option Nat} {fs : List Fd} (h : PlacesOk w B pm fs) (v : V) (hv : VOk v) :
    (Instr.lookup 63 (.map pm) (kval v) true).run Try.prog w = .ok (.tuple #[.int .i64 (placeI fs v), .bool (placeB fs v)]) w := by
  obtain ⟨kl, hkl⟩ := key_of v hv
  cases pm with
  | none =>
    have h0 : fs = [] := h
    rw [Maps.look_nil true keyedId Try.underlying63 (zeroInt w) hkl, h0]
    rfl
  | some b =>
    obtain ⟨_, D, hD, hq⟩ := h
    obtain ⟨h1, h2⟩ := hq v kl hv hkl
    obtain ⟨u, ps, hrun, hu⟩ := hD.look_ok keyedId Try.underlying63 (zeroInt w) (plainElem_int Try.underlying3 (by decide)) hkl
    rw [h2] at hu
    obtain ⟨a, rfl, hz, _⟩ := plainElem_int_inv Try.underlying3 hu
    simp at hz
    rw [hrun, h1, hz.1]
theorem PlacesOk.below {w w' : World} {B : Nat} {pm : Option Nat} {fs : List Fd} (h : PlacesOk w B pm fs) (hk : ∀ b, pm = some b → w'.heap[b]? = w.heap[b]?) : PlacesOk w' B pm fs := by
  cases pm with
  | none => exact h
  | some b =>
    obtain ⟨h0, D, ⟨es, cl, hb, h3⟩, hq⟩ := h
    exact ⟨h0, D, ⟨es, cl, (hk b rfl).trans hb, h3⟩, hq⟩
theorem PlacesOk.lt {w : World} {B b : Nat} {fs : List Fd} (h : PlacesOk w B (some b) fs) : b < w.heap.size := by
  obtain ⟨_, D, hD, _⟩ := h
  exact hD.lt
/-- A map's block holds no cells. -/
theorem PlacesOk.ne {w : World} {B b G : Nat} {fs : List Fd} {t : TypeId} {cs : List Value} (h : PlacesOk w B (some b) fs) (hG : Has w G t cs) : b ≠ G := by
  obtain ⟨_, D, ⟨es, cl, hb, _⟩, _⟩ := h
  rintro rfl
  rw [show w.heap[b]? = _ from hG] at hb
  cases hb
theorem placeOf_snoc (fs : List Fd) (f : Fd) (v : V) : placeOf (fs ++ [f]) v = match placeOf fs v with | some i => some i | none => if sameB f.1 v then some fs.length else none := by
  unfold placeOf
  rw [List.findIdx?_append]
  cases h : fs.findIdx? (fun f => sameB f.1 v) with
  | some i => simp
  | none => by_cases hs : sameB f.1 v = true <;> simp [hs, List.findIdx?_cons]
/-- A new key. -/
theorem put_places {w : World} {B b : Nat} {fs : List Fd} (h : PlacesOk w B (some b) fs) (hlen : fs.length < 9223372036854775807) (v : V) (hv : VOk v) (hn : placeOf fs v = none) (x : V) (y : V) (hx : kval x = kval v) :
    ∃ w', (Instr.mapUpdate 63 (.map (some b)) (kval v) (.int .i64 (fs.length : Int))).run Try.prog w = .ok () w' ∧ PlacesOk w' B (some b) (fs ++ [(x, y)]) ∧ w.mapTurned w' b := by
  obtain ⟨kl, hkl⟩ := key_of v hv
  obtain ⟨h0, D, hD, hq⟩ := h
  obtain ⟨w', hrun, hD', hm⟩ := hD.store keyedId Try.underlying63 (by unfold maxLen; omega) hkl (plainElem_int Try.underlying3 (wf_i64 (n := (fs.length : Int)) ⟨by omega, by omega⟩))
  refine ⟨w', hrun, ⟨h0, _, by rw [List.length_append]; exact hD', fun u ku hu hku => ?_⟩, hm⟩
  have hmap := hD.isMap
  have hkk := keyedId.key hkl
  unfold placeI placeB
  rw [placeOf_snoc]
  by_cases e : kval u = kval v
  · have hkl2 : ku = kl := by
      rw [e] at hku
      exact Option.some.inj (hku.symm.trans hkl)
    subst hkl2
    have hnu : placeOf fs u = none := by
      have : (fun f : Fd => sameB f.1 u) = fun f : Fd => sameB f.1 v := by
        funext f
        rw [Bool.eq_iff_iff]
        exact ⟨fun h => kval_inj ((kval_eq h).trans e), fun h => kval_inj ((kval_eq h).trans e.symm)⟩
      unfold placeOf at hn ⊢
      rw [this]
      exact hn
    have hsx : sameB x u = true := kval_inj (hx.trans e.symm)
    rw [hnu]
    simp only [hsx, if_true]
    exact ⟨Maps.has_put_same hmap hkk _, Maps.atKey_put_same hmap hkk _ _⟩
  · have hne : ku ≠ kl := by
      intro h9
      subst h9
      exact e (keyedId.inj hku hkl)
    have hsx : sameB x u = false := by
      cases h9 : sameB x u
      · rfl
      · exact absurd ((kval_eq h9).symm.trans hx) e
    obtain ⟨h1, h2⟩ := hq u ku hu hku
    rw [Maps.has_put_other hne, Maps.atKey_put_other hne, h1, h2]
    unfold placeB placeI
    simp only [hsx]
    cases placeOf fs u <;> simp
end TabD
end Go.Proofs.Ytpmbbkhhnkhcbaa
