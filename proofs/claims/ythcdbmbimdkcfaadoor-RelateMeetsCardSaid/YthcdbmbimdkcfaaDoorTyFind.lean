/- A search among names that rise. -/
import Derived.Test.YthcdbmbimdkcfaaDoorTyCheck
namespace Go.Proofs.YthcdbmbimdkcfaaDoor
open Go.RowKit ObjM
namespace TyD

theorem lt_str (a b : ByteArray) : Op.bytesLess a.toList b.toList = decide (a.data.toList < b.data.toList) := by
  rw [less_lt, ByteArray.toList_eq, ByteArray.toList_eq]
theorem nan_any (s : ByteArray) (w : World) : Calls Tryd.prog 97 #[.string s] w (BoolIs w false) := by
  have h : (s.toList != s.toList) = false := by simp
  go_enter Tryd.func97, Tryd.ntmps97
  go_wp2
  go_ret
  exact ⟨by simp, rfl⟩
theorem nan2_any (s : ByteArray) (w : World) : Calls Tryd.prog 89 #[.string s] w (BoolIs w false) := by
  have h : (s.toList != s.toList) = false := by simp
  go_enter Tryd.func89, Tryd.ntmps89
  go_wp2
  go_ret
  exact ⟨by simp, rfl⟩
set_option maxHeartbeats 2000000 in
theorem less_any (a b : ByteArray) (w : World) : Calls Tryd.prog 88 #[.string a, .string b] w (BoolIs w (decide (a.data.toList < b.data.toList))) := by
  have HN := fun s W => Lib.hid (nan_any s W)
  have hl := lt_str a b
  generalize decide (a.data.toList < b.data.toList) = q at hl ⊢
  cases q
  all_goals
    go_enter Tryd.func88, Tryd.ntmps88
    go_wp2_with fail
    refine ((HN _ _).out).mono ?_
    rintro e w1 ⟨rfl, rfl⟩
    go_wp2
    go_ret
    exact ⟨rfl, rfl⟩
/-- Where a name would stand; whether it is there. -/
def posV (ns : List ByteArray) (s : ByteArray) : Nat := (ns.takeWhile fun x => decide (x.data.toList < s.data.toList)).length
def hasN (ns : List ByteArray) (s : ByteArray) : Bool := ns.any fun x => decide (x = s)
theorem hasN_iff {ns : List ByteArray} {s : ByteArray} : hasN ns s = true ↔ s ∈ ns := by
  unfold hasN
  rw [List.any_eq_true]
  constructor
  · rintro ⟨x, hx, e⟩
    rw [decide_eq_true_eq] at e
    exact e ▸ hx
  · exact fun h => ⟨s, h, decide_eq_true rfl⟩
theorem hasN_no {ns : List ByteArray} {s : ByteArray} : hasN ns s = false ↔ s ∉ ns := by
  rw [← hasN_iff, Bool.not_eq_true]
def FoundIs (ns : List ByteArray) (s : ByteArray) (w : World) (e : Ending) (w' : World) : Prop := e = .returned (.tuple #[.int .i64 (posV ns s : Int), .bool (hasN ns s)]) ∧ w = w'
theorem posV_eq : ∀ (ns : List ByteArray) (s : ByteArray) (i : Nat), i ≤ ns.length → (∀ k, k < i → (ns.getD k ⟨#[]⟩).data.toList < s.data.toList) → (i < ns.length → ¬ (ns.getD i ⟨#[]⟩).data.toList < s.data.toList) → posV ns s = i
  | [], _, i, hi, _, _ => by
    simp at hi
    subst hi
    rfl
  | x :: r, s, 0, _, _, h2 => by
    have := h2 (by simp)
    simp only [List.getD_cons_zero] at this
    unfold posV
    rw [List.takeWhile_cons, decide_eq_false this]
    rfl
  | x :: r, s, i + 1, hi, h1, h2 => by
    have h0 := h1 0 (by omega)
    simp only [List.getD_cons_zero] at h0
    have ih := posV_eq r s i (by simpa using hi) (fun k hk => by simpa using h1 (k + 1) (by omega)) (fun h => by simpa using h2 (by simpa using h))
    unfold posV at ih ⊢
    rw [List.takeWhile_cons, decide_eq_true h0, if_pos rfl, List.length_cons, ih]
def upTo (ns : List ByteArray) (s : ByteArray) (i : Nat) : Prop := ∀ k, k < i → (ns.getD k ⟨#[]⟩).data.toList < s.data.toList
def fromOn (ns : List ByteArray) (s : ByteArray) (j : Nat) : Prop := ∀ k, j ≤ k → k < ns.length → ¬ (ns.getD k ⟨#[]⟩).data.toList < s.data.toList
theorem upTo_next {ns : List ByteArray} {s : ByteArray} {h : Nat} (hr : risingB ns = true) (hh : h < ns.length) (hl : (ns.getD h ⟨#[]⟩).data.toList < s.data.toList) : upTo ns s (h + 1) := by
  intro k hk
  by_cases e : k = h
  · subst e
    exact hl
  · exact List.lt_trans (rising_lt hr h k (by omega) hh) hl
theorem fromOn_next {ns : List ByteArray} {s : ByteArray} {h : Nat} (hr : risingB ns = true) (hl : ¬ (ns.getD h ⟨#[]⟩).data.toList < s.data.toList) : fromOn ns s h := by
  intro k hk hkn
  by_cases e : h = k
  · subst e
    exact hl
  · intro h2
    exact hl (List.lt_trans (rising_lt hr k h (by omega) hkn) h2)
theorem pos_of {ns : List ByteArray} {s : ByteArray} {i : Nat} (hi : i ≤ ns.length) (h1 : upTo ns s i) (h2 : fromOn ns s i) : posV ns s = i := posV_eq ns s i hi h1 fun h => h2 i (Nat.le_refl _) h
/-- A name that is there stands where it would. -/
theorem pos_in {ns : List ByteArray} {s : ByteArray} (hr : risingB ns = true) (h : s ∈ ns) : ns[posV ns s]? = some s := by
  obtain ⟨k, hk, e⟩ := List.getElem_of_mem h
  have eg : ns.getD k ⟨#[]⟩ = s := by simp [List.getD, hk, e]
  have : posV ns s = k := posV_eq ns s k (by omega) (fun j hj => by have := rising_lt hr k j hj hk; rw [eg] at this; exact this) (fun _ => by rw [eg]; exact List.lt_irrefl _)
  rw [this, List.getElem?_eq_getElem hk, e]
theorem not_in {ns : List ByteArray} {s : ByteArray} {i : Nat} (hr : risingB ns = true) (h1 : upTo ns s i) (h2 : fromOn ns s i) (h3 : ∀ x, ns[i]? = some x → ¬ x = s) : s ∉ ns := by
  intro hm
  obtain ⟨k, hk, e⟩ := List.getElem_of_mem hm
  have eg : ns.getD k ⟨#[]⟩ = s := by simp [List.getD, hk, e]
  rcases Nat.lt_trichotomy k i with h | h | h
  · have := h1 k h
    rw [eg] at this
    exact List.lt_irrefl _ this
  · subst h
    exact h3 _ (List.getElem?_eq_getElem hk) e
  · have := rising_lt hr k i h hk
    rw [eg] at this
    exact h2 i (Nat.le_refl _) (by omega) this
set_option maxRecDepth 100000 in
set_option maxHeartbeats 8000000 in
theorem search_any (ns : List ByteArray) (s : ByteArray) (vn : Value) (w : World) (h : StrsAt w vn ns) (hl : ns.length ≤ 140737488355328) (hr : risingB ns = true) :
    Calls Tryd.prog 73 #[vn, .string s] w (FoundIs ns s w) := by
  obtain ⟨av, ca, rfl⟩ := h.shape
  have HV := Lib.hid (fun (W : World) (hb : Below w.heap.size w W) => h.below (Nat.le_refl _) hb)
  have HL := fun a b W => Lib.hid (less_any a b W)
  have HN := fun s W => Lib.hid (nan2_any s W)
  have HR := Lib.hid hr
  obtain ⟨m, hm⟩ : ∃ m, ns.length = m := ⟨_, rfl⟩
  have HM := Lib.hid hm
  rw [hm] at hl
  clear h hm hr
  go_enter Tryd.func73, Tryd.ntmps73
  rw [HM.out]
  go_wp2
  go_loopw [7, 8] (fun i j wr => ∃ a b : Nat, i = .int .i64 (a : Int) ∧ j = .int .i64 (b : Int) ∧ a ≤ b ∧ b ≤ m ∧ Hid (wr = w) ∧ Hid (upTo ns s a) ∧ Hid (fromOn ns s b)) (fun i j _ => (intOf j).toNat - (intOf i).toNat)
  case atStart => exact ⟨0, m, rfl, rfl, by omega, by omega, Lib.hid rfl, Lib.hid (fun k hk => by omega), Lib.hid (fun k hk hkn => by have := HM.out; omega)⟩
  case round =>
    obtain ⟨a, b, rfl, rfl, hab, hbm, HW, HU, HF⟩ := hrel
    obtain rfl := HW.out
    clear HW
    have HB := Lib.hid (Below.refl wr.heap.size wr)
    by_cases hlt : a < b
    · have hi1 : (a : Int) < (b : Int) := by omega
      obtain ⟨c, hc⟩ : ∃ c, (a + b) / 2 = c := ⟨_, rfl⟩
      have hc1 : a ≤ c := by omega
      have hc2 : c < b := by omega
      have hc3 : ((a : Int) + (b : Int)) / 2 = (c : Int) := by omega
      have hci : (c : Int) < (m : Int) := by omega
      have hcn : c < ns.length := by rw [HM.out]; omega
      obtain ⟨g, o, rfl, hg, c0⟩ := (HV.out _ HB.out).at c hcn
      have HU2 := Lib.hid (fun h => upTo_next (s := s) HR.out hcn h)
      have HF2 := Lib.hid (fun h => fromOn_next (s := s) (h := c) HR.out h)
      have e : ns.getD c ⟨#[]⟩ = ns[c] := by simp [List.getD, hcn]
      rw [e] at HU2 HF2
      generalize ns[c] = x at c0 HU2 HF2
      have HLx := Lib.hid (HL x s wr)
      obtain ⟨q, hq⟩ : ∃ q, decide (x.data.toList < s.data.toList) = q := ⟨_, rfl⟩
      rw [hq] at HLx
      have HQ := Lib.hid hq
      have hab2 : (a : Int) + (b : Int) ≤ 281474976710656 := by omega
      have hab3 : 0 ≤ (a : Int) + (b : Int) := by omega
      clear e hcn hq hc
      cases q
      · have HF3 := Lib.hid (HF2.out (of_decide_eq_false HQ.out))
        clear HU2 HF2
        go_wp2_with fail
        refine (HLx.out).mono ?_
        rintro e w1 ⟨rfl, rfl⟩
        go_wp2
        go_roundw
        case rel => exact ⟨a, c, rfl, rfl, hc1, by omega, (by first | exact Lib.hid rfl | exact Lib.hid trivial), HU, HF3⟩
        case measure => simp [intOf]; omega
      · have HU3 := Lib.hid (HU2.out (of_decide_eq_true HQ.out))
        clear HU2 HF2
        go_wp2_with fail
        refine (HLx.out).mono ?_
        rintro e w1 ⟨rfl, rfl⟩
        go_wp2
        go_roundw
        case rel => exact ⟨c + 1, b, by go_num, rfl, by omega, hbm, (by first | exact Lib.hid rfl | exact Lib.hid trivial), HU3, HF⟩
        case measure => simp [intOf]; omega
    · have hab : a = b := by omega
      subst hab
      have HPo : Hid (posV ns s = a) := Lib.hid (pos_of (by rw [HM.out]; exact hbm) HU.out HF.out)
      by_cases ham : a < m
      · have hi2 : (a : Int) < (m : Int) := by omega
        have han : a < ns.length := by rw [HM.out]; exact ham
        obtain ⟨g, o, rfl, hg, c0⟩ := (HV.out _ HB.out).at a han
        have HX : Hid (∀ x, ns[a]? = some x → ns[a] = x) := Lib.hid (fun x hx => by rw [List.getElem?_eq_getElem han] at hx; injection hx)
        have HG : Hid (ns[a]? = some ns[a]) := Lib.hid (List.getElem?_eq_getElem han)
        generalize ns[a] = x at c0 HX HG
        by_cases he : x = s
        · subst he
          have hb1 : (x.toList == x.toList) = true := by simp
          clear han
          go_wp2
          exact bodyPost_ret (v := .tuple #[.int .i64 (a : Int), .bool true]) (by simp [results, Tryd.results73, go_sem]) rfl ⟨by rw [HPo.out, hasN_iff.2 (List.mem_of_getElem? HG.out)], rfl⟩
        · have hb1 : (x.toList == s.toList) = false := by
            rw [ByteArray.toList_eq, ByteArray.toList_eq]
            simp only [beq_eq_false_iff_ne, ne_eq]
            intro e
            exact he (ByteArray.ext (Array.ext' e))
          have HNi : Hid (s ∉ ns) := Lib.hid (not_in HR.out HU.out HF.out fun y hy e => he ((HX.out y hy).trans e))
          have HNx := Lib.hid (HN x wr)
          clear han he
          go_wp2_with fail
          refine (HNx.out).mono ?_
          rintro e w1 ⟨rfl, rfl⟩
          go_wp2
          exact bodyPost_ret (v := .tuple #[.int .i64 (a : Int), .bool false]) (by simp [results, Tryd.results73, go_sem]) rfl ⟨by rw [HPo.out, hasN_no.2 HNi.out], rfl⟩
      · have ham2 : a = m := by omega
        have HNi : Hid (s ∉ ns) := Lib.hid (not_in HR.out HU.out HF.out fun y hy e => by
          have := (List.getElem?_eq_some_iff.1 hy).1
          have := HM.out
          omega)
        go_wp2
        exact bodyPost_ret (v := .tuple #[.int .i64 (a : Int), .bool false]) (by simp [results, Tryd.results73, go_sem]) rfl ⟨by rw [HPo.out, hasN_no.2 HNi.out], rfl⟩
end TyD
end Go.Proofs.YthcdbmbimdkcfaaDoor
