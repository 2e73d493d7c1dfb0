/- Events as a text: both sides. -/
import Derived.Test.YticgpfigjkgfaaaDoorTraceText
import Derived.Test.YticgpfigjkgfaaaDoorTraceAwake
import Derived.Lib.ItoaLen
namespace Go.Proofs.YticgpfigjkgfaaaDoor
open Go.RowKit ObjM
namespace TraceD
open LabelM LabelD NumD

set_option maxRecDepth 100000 in
set_option maxHeartbeats 4000000 in
theorem value_any (e : Ev) (hs : e.s.size ≤ 1000000) (hn : -9223372036854775808 ≤ e.n ∧ e.n ≤ 9223372036854775807) (w : World) (hT : Tab w) :
    Calls Tryd.prog 26 #[e.agg] w fun r w' => r = .returned (.string (textS e)) ∧ Below w.heap.size w w' := by
  have HN := fun (W : World) (hb : Below w.heap.size w W) => Lib.hid (refShow_any e.n hn.1 hn.2 W (hT.below hb))
  have HQ := fun (W : World) => Lib.hid (refQuote_any e.s hs W)
  have hA1 : ∀ o : Go.Obj, Below w.heap.size w (w.alloc o) := fun o => (Below.refl _ w).alloc (Nat.le_refl _) o
  clear hT hs hn
  have hw := textWay e
  obtain ⟨c, k, n, s⟩ := e
  obtain ⟨T, hT⟩ : ∃ x, textS ⟨c, k, n, s⟩ = x := ⟨_, rfl⟩
  rcases hw with ⟨h, t⟩ | ⟨h, n0, t⟩ | ⟨h, n1, n2, t⟩ | ⟨h, t⟩ | ⟨h, t⟩ | ⟨h, t⟩ | ⟨h, t⟩ | ⟨h, t⟩ | ⟨h0, h1, h2, h3, h4, h5, h6, t⟩
  case int =>
    simp only at h t HN
    rw [hT] at t ⊢
    obtain ⟨iz, hiz⟩ : ∃ z : ByteArray, (⟨(Lib.itoa n).toArray⟩ : ByteArray) = z := ⟨_, rfl⟩
    simp only [hiz] at HN t
    subst h t
    clear hiz hT HQ
    simp only [Ev.agg]
    go_enter Tryd.func26, Tryd.ntmps26
    go_wp2_with fail
    with_reducible refine ((HN _ (hA1 _)).out).mono ?_
    rintro e w1 ⟨rfl, hb⟩
    go_wp2
    go_ret
    exact ⟨rfl, (hA1 _).trans (hb.mono (by simp))⟩
  case str =>
    simp only at h t HQ
    rw [hT] at t ⊢
    obtain ⟨iz, hiz⟩ : ∃ z : ByteArray, (⟨(quoteB s.data.toList).toArray⟩ : ByteArray) = z := ⟨_, rfl⟩
    simp only [hiz] at HQ t
    subst h t
    clear hiz hT HN
    simp only [Ev.agg]
    go_enter Tryd.func26, Tryd.ntmps26
    go_wp2_with fail
    with_reducible refine ((HQ _).out).mono ?_
    rintro e w1 ⟨rfl, hb⟩
    go_wp2
    go_ret
    exact ⟨rfl, (hA1 _).trans (hb.mono (by simp))⟩
  case no =>
    simp only at h n0 t
    rw [hT] at t ⊢
    subst h n0 t
    clear hT HN HQ
    simp only [Ev.agg]
    go_enter Tryd.func26, Tryd.ntmps26
    go_wp2
    go_ret
    exact ⟨rfl, hA1 _⟩
  case yes =>
    simp only at h n1 n2 t
    rw [hT] at t ⊢
    subst h t
    clear hT HN HQ
    simp only [Ev.agg]
    go_enter Tryd.func26, Tryd.ntmps26
    go_wp2
    go_ret
    exact ⟨rfl, hA1 _⟩
  case none =>
    simp only at h0 h1 h2 h3 h4 h5 h6 t
    rw [hT] at t ⊢
    subst t
    clear hT HN HQ
    simp only [Ev.agg]
    go_enter Tryd.func26, Tryd.ntmps26
    go_wp2
    go_ret
    exact ⟨rfl, hA1 _⟩
  all_goals
    simp only at h t
    rw [hT] at t ⊢
    subst h t
    clear hT HN HQ
    simp only [Ev.agg]
    go_enter Tryd.func26, Tryd.ntmps26
    go_wp2
    go_ret
    exact ⟨rfl, hA1 _⟩

def lineB (e : Ev) : List UInt8 := Lib.itoa e.ch ++ [32] ++ (textS e).data.toList ++ [10]
def showL (l : List Ev) : List UInt8 := l.flatMap lineB
theorem showL_next {l : List Ev} {k : Nat} (h : k < l.length) : showL (l.take (k + 1)) = showL (l.take k) ++ lineB l[k] := by
  unfold showL
  rw [List.take_succ_eq_append_getElem h, List.flatMap_append]
  simp
end TraceD
end Go.Proofs.YticgpfigjkgfaaaDoor
