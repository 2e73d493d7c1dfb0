/- An event's value as a text: both sides. -/
import Derived.Test.YticgpfigjkgfaaaDoorTraceQ3
import Derived.Test.YticgpfigjkgfaaaDoorTraceShow
namespace Go.Proofs.YticgpfigjkgfaaaDoor
open Go.RowKit ObjM
namespace TraceD
open LabelM LabelD NumD

def textS (e : Ev) : ByteArray :=
  if e.k = 0 then ⟨#[110, 105, 108]⟩ else if e.k = 1 then (if e.n = 0 then ⟨#[102, 97, 108, 115, 101]⟩ else ⟨#[116, 114, 117, 101]⟩) else if e.k = 2 then ⟨(Lib.itoa e.n).toArray⟩
  else if e.k = 3 then ⟨(quoteB e.s.data.toList).toArray⟩ else if e.k = 4 then ⟨#[116, 97, 98, 108, 101]⟩ else if e.k = 5 then ⟨#[102, 117, 110, 99, 116, 105, 111, 110]⟩ else if e.k = 6 then ⟨#[116, 104, 114, 101, 97, 100]⟩ else ⟨#[63]⟩
inductive TextWay (e : Ev) : Prop where
  | nil (h : e.k = 0) (t : textS e = ⟨#[110, 105, 108]⟩)
  | no (h : e.k = 1) (n : e.n = 0) (t : textS e = ⟨#[102, 97, 108, 115, 101]⟩)
  | yes (h : e.k = 1) (n : (e.n == 0) = false) (n2 : (e.n != 0) = true) (t : textS e = ⟨#[116, 114, 117, 101]⟩)
  | int (h : e.k = 2) (t : textS e = ⟨(Lib.itoa e.n).toArray⟩)
  | str (h : e.k = 3) (t : textS e = ⟨(quoteB e.s.data.toList).toArray⟩)
  | tab (h : e.k = 4) (t : textS e = ⟨#[116, 97, 98, 108, 101]⟩)
  | fn (h : e.k = 5) (t : textS e = ⟨#[102, 117, 110, 99, 116, 105, 111, 110]⟩)
  | thr (h : e.k = 6) (t : textS e = ⟨#[116, 104, 114, 101, 97, 100]⟩)
  | none (h0 : (e.k == 0) = false) (h1 : (e.k == 1) = false) (h2 : (e.k == 2) = false) (h3 : (e.k == 3) = false) (h4 : (e.k == 4) = false) (h5 : (e.k == 5) = false) (h6 : (e.k == 6) = false) (t : textS e = ⟨#[63]⟩)
theorem textWay (e : Ev) : TextWay e := by
  by_cases h0 : e.k = 0
  · exact .nil h0 (by unfold textS; rw [if_pos h0])
  by_cases h1 : e.k = 1
  · by_cases hn : e.n = 0
    · exact .no h1 hn (by unfold textS; rw [if_neg h0, if_pos h1, if_pos hn])
    · exact .yes h1 (by simpa using hn) (by simpa using hn) (by unfold textS; rw [if_neg h0, if_pos h1, if_neg hn])
  by_cases h2 : e.k = 2
  · exact .int h2 (by unfold textS; rw [if_neg h0, if_neg h1, if_pos h2])
  by_cases h3 : e.k = 3
  · exact .str h3 (by unfold textS; rw [if_neg h0, if_neg h1, if_neg h2, if_pos h3])
  by_cases h4 : e.k = 4
  · exact .tab h4 (by unfold textS; rw [if_neg h0, if_neg h1, if_neg h2, if_neg h3, if_pos h4])
  by_cases h5 : e.k = 5
  · exact .fn h5 (by unfold textS; rw [if_neg h0, if_neg h1, if_neg h2, if_neg h3, if_neg h4, if_pos h5])
  by_cases h6 : e.k = 6
  · exact .thr h6 (by unfold textS; rw [if_neg h0, if_neg h1, if_neg h2, if_neg h3, if_neg h4, if_neg h5, if_pos h6])
  · exact .none (by simpa using h0) (by simpa using h1) (by simpa using h2) (by simpa using h3) (by simpa using h4) (by simpa using h5) (by simpa using h6) (by unfold textS; rw [if_neg h0, if_neg h1, if_neg h2, if_neg h3, if_neg h4, if_neg h5, if_neg h6])

set_option maxRecDepth 100000 in
set_option maxHeartbeats 4000000 in
theorem text_any (e : Ev) (hs : e.s.size ≤ 1000000) (hn : -9223372036854775808 ≤ e.n ∧ e.n ≤ 9223372036854775807) (w : World) (hT : Tab w) :
    Calls Tryd.prog 23 #[e.agg] w fun r w' => r = .returned (.string (textS e)) ∧ Below w.heap.size w w' := by
  have HN := fun (W : World) (hb : Below w.heap.size w W) => Lib.hid (show_any e.n hn.1 hn.2 W (hT.below hb))
  have HQ := fun (W : World) => Lib.hid (quote_any e.s hs W)
  have HFt := fun W => Lib.hid (Tryd.strconv_FormatBool true W)
  have HFf := fun W => Lib.hid (Tryd.strconv_FormatBool false W)
  have hA1 : ∀ o : Go.Obj, Below w.heap.size w (w.alloc o) := fun o => (Below.refl _ w).alloc (Nat.le_refl _) o
  clear hT hs hn
  have hw := textWay e
  obtain ⟨c, k, n, s⟩ := e
  obtain ⟨T, hT⟩ : ∃ x, textS ⟨c, k, n, s⟩ = x := ⟨_, rfl⟩
  rcases hw with ⟨h, t⟩ | ⟨h, n0, t⟩ | ⟨h, n1, n2, t⟩ | ⟨h, t⟩ | ⟨h, t⟩ | ⟨h, t⟩ | ⟨h, t⟩ | ⟨h, t⟩ | ⟨h0, h1, h2, h3, h4, h5, h6, t⟩
  case int =>
    simp only at h t HN
    rw [hT] at t ⊢
    obtain ⟨iz, hiz⟩ : ∃ z : ByteArray, (⟨(Lib.itoa n).toArray⟩ : ByteArray) = z := ⟨_, rfl⟩
    simp only [hiz] at HN t
    subst h t
    clear hiz hT HQ HFt HFf
    simp only [Ev.agg]
    go_enter Tryd.func23, Tryd.ntmps23
    go_wp2_with fail
    with_reducible refine ((HN _ (hA1 _)).out).mono ?_
    rintro e w1 ⟨rfl, hb⟩
    go_wp2
    go_ret
    exact ⟨rfl, (hA1 _).trans (hb.mono (by simp))⟩
  case str =>
    simp only at h t HQ
    rw [hT] at t ⊢
    obtain ⟨iz, hiz⟩ : ∃ z : ByteArray, (⟨(quoteB s.data.toList).toArray⟩ : ByteArray) = z := ⟨_, rfl⟩
    simp only [hiz] at HQ t
    subst h t
    clear hiz hT HN HFt HFf
    simp only [Ev.agg]
    go_enter Tryd.func23, Tryd.ntmps23
    go_wp2_with fail
    with_reducible refine ((HQ _).out).mono ?_
    rintro e w1 ⟨rfl, hb⟩
    go_wp2
    go_ret
    exact ⟨rfl, (hA1 _).trans (hb.mono (by simp))⟩
  case no =>
    simp only at h n0 t
    rw [hT] at t ⊢
    subst h n0 t
    clear hT HN HQ HFt
    simp only [Ev.agg]
    go_enter Tryd.func23, Tryd.ntmps23
    go_wp2_with fail
    refine ((HFf _).out).mono ?_
    rintro e w1 ⟨rfl, hw⟩
    first | subst hw | skip
    go_wp2
    go_ret
    exact ⟨rfl, hA1 _⟩
  case yes =>
    simp only at h n1 n2 t
    rw [hT] at t ⊢
    subst h t
    clear hT HN HQ HFf
    simp only [Ev.agg]
    go_enter Tryd.func23, Tryd.ntmps23
    go_wp2_with fail
    refine ((HFt _).out).mono ?_
    rintro e w1 ⟨rfl, hw⟩
    first | subst hw | skip
    go_wp2
    go_ret
    exact ⟨rfl, hA1 _⟩
  case none =>
    simp only at h0 h1 h2 h3 h4 h5 h6 t
    rw [hT] at t ⊢
    subst t
    clear hT HN HQ HFt HFf
    simp only [Ev.agg]
    go_enter Tryd.func23, Tryd.ntmps23
    go_wp2
    go_ret
    exact ⟨rfl, hA1 _⟩
  all_goals
    simp only at h t
    rw [hT] at t ⊢
    subst h t
    clear hT HN HQ HFt HFf
    simp only [Ev.agg]
    go_enter Tryd.func23, Tryd.ntmps23
    go_wp2
    go_ret
    exact ⟨rfl, hA1 _⟩
end TraceD
end Go.Proofs.YticgpfigjkgfaaaDoor
