/- Put of any table. -/
import Derived.Test.YtpmbbkhhnkhcbaaTab25
import Derived.Test.YtpmbbkhhnkhcbaaTab20
import Derived.Test.YtpmbbkhhnkhcbaaTab18
namespace Go.Proofs.Ytpmbbkhhnkhcbaa
open Go.RowKit ObjM Go.Maps
namespace TabD
open LabelM LabelD ValD

def putF (lab : Nat) (fs : List Fd) (ss : List St) (c : Nat) (key v : V) : Int × List Fd :=
  if keyB key = false then (41, fs)
  else if key.k = 3 ∧ fitB ss (key8 key.s) v.k = false then (42, fs)
  else match placeOf fs key with
    | none => if flowsB (c ||| key.l) lab = true then (0, fs ++ [({ key with l := 0 }, v.with (c ||| key.l))]) else (40, fs)
    | some i => match fs[i]? with
      | none => (40, fs)
      | some f => if flowsB (c ||| key.l) f.2.l = true then (0, fs.set i (f.1, v.with (c ||| key.l))) else (40, fs)
def PutTS (w : World) (B T lab : Nat) (fv : Value) (pm : Option Nat) (sv : Value) (nm : Option Nat) (N : Nat) (ss : List St) (r : Int × List Fd) (e : Ending) (w' : World) : Prop :=
  e = .returned (.int .i64 r.1) ∧ ∃ fv' pm', IsTS w' B T lab r.2 fv' pm' sv nm N ss ∧ Keeps (tblk T fv pm) w w' ∧ ∀ x ∈ tblk T fv' pm', x ∈ tblk T fv pm ∨ w.heap.size ≤ x
theorem IsTS.below {w w' : World} {B T lab : Nat} {fs : List Fd} {fv : Value} {pm : Option Nat} {sv : Value} {nm : Option Nat} {N : Nat} {ss : List St} (h : IsTS w B T lab fs fv pm sv nm N ss) (hb : Below w.heap.size w w') : IsTS w' B T lab fs fv pm sv nm N ss :=
  ⟨h.1.below hb, h.2.1.below hb, h.2.2⟩
theorem PutTS.out {w w' : World} {B T lab : Nat} {fs : List Fd} {fv : Value} {pm : Option Nat} {sv : Value} {nm : Option Nat} {N : Nat} {ss : List St} {er : Int} {e : Ending} (h : IsTS w B T lab fs fv pm sv nm N ss) (ho : PutOut w er e w') : PutTS w B T lab fv pm sv nm N ss (er, fs) e w' :=
  ⟨ho.1, fv, pm, h.below ho.2, Keeps.below' ho.2 _, fun _ hx => .inl hx⟩
theorem PutTS.did {w w' : World} {B T lab : Nat} {fs fs' : List Fd} {fv : Value} {pm : Option Nat} {sv : Value} {nm : Option Nat} {N : Nat} {ss : List St} {e : Ending} (h : IsTS w B T lab fs fv pm sv nm N ss) (hd : PutDid w B T lab fs' fv pm sv (.map nm) e w') : PutTS w B T lab fv pm sv nm N ss (0, fs') e w' := by
  obtain ⟨rfl, fv', pm', h1, h2, ⟨h3, h4⟩, h5⟩ := hd
  have hnm : ∀ b, nm = some b → b ∉ tblk T fv pm := by
    intro b hb hm
    subst hb
    rcases List.mem_cons.1 hm with rfl | hm
    · exact h.2.1.2.1.ne h.1.1 rfl
    · rcases List.mem_append.1 hm with hm | hm
      · obtain ⟨cs, hc⟩ := own_row h.1.2.1 b (by simpa using hm)
        exact h.2.1.2.1.ne hc rfl
      · exact h.2.2 b (by simpa using hm) rfl
  refine ⟨rfl, fv', pm', ⟨h1, h.2.1.keeps h3 (fun b hb hm => ?_) hnm, fun b hb hx => ?_⟩, h3, h4⟩
  · obtain ⟨cs, hc⟩ := own_row h.2.1.1 b hb
    rcases List.mem_cons.1 hm with rfl | hm
    · exact hc.ne h.1.1 (by decide) rfl
    · rcases List.mem_append.1 hm with hm | hm
      · obtain ⟨ds, hd⟩ := own_row h.1.2.1 b (by simpa using hm)
        exact hc.ne hd (by decide) rfl
      · have hp := h.1.2.2.1
        have e : pm = some b := by simpa using hm
        rw [e] at hp
        exact hp.ne hc rfl
  · subst hb
    rcases h4 b (by simp [tblk]) with h9 | h9
    · exact hnm b hx h9
    · have hp := h.2.1.2.1
      rw [hx] at hp
      have := hp.lt
      omega
theorem keyB_kind {v : V} (h : keyB v = true) : v.k = 2 ∨ v.k = 3 := by
  unfold keyB at h
  simp at h
  exact h.1
theorem tput_any (B T lab N : Nat) (fs : List Fd) (fv : Value) (pm : Option Nat) (sv : Value) (nm : Option Nat) (ss : List St) (c0 : Nat) (hc0 : c0 < M64) (key x : V) (hv : VOk key) (hx : VOk x) (w : World) (hB : B ≤ w.heap.size) (h : IsTS w B T lab fs fv pm sv nm N ss) (hlen : fs.length < 1000000) :
    Calls Try.prog 15 #[.pointer (some ⟨T, 0, none⟩), .int .u64 (c0 : Int), key.agg, x.agg] w (PutTS w B T lab fv pm sv nm N ss (putF lab fs ss c0 key x)) := by
  have hfit : ∀ b, fitB ss (key8 key.s) x.k = b → ∀ W, Below w.heap.size w W → Calls Try.prog 34 #[.pointer (some ⟨T, 0, none⟩), .string key.s, .int .i64 x.k] W fun e w' => e = .returned (.bool b) ∧ Below W.heap.size W w' := fun b hb W hW => by
    rw [← hb]
    exact fits_any B T lab N fs fv sv pm nm ss key.s hv.2.2.1 x.k W (h.below hW).1 (h.below hW).2.1
  unfold putF
  cases hk : keyB key with
  | false =>
    rw [if_pos rfl]
    exact (put_nokey _ c0 key x hk w).mono fun _ _ ho => .out h ho
  | true =>
    rw [if_neg (by simp)]
    by_cases h3 : key.k = 3
    · cases hf : fitB ss (key8 key.s) x.k with
      | false =>
        rw [if_pos ⟨h3, rfl⟩]
        exact (put_nofit B T lab fs fv sv _ pm c0 key x hv hx hk h3 w h.1 (hfit _ hf)).mono fun _ _ ho => .out h ho
      | true =>
        rw [if_neg (by simp)]
        cases hp : placeOf fs key with
        | none =>
          cases hfl : flowsB (c0 ||| key.l) lab with
          | false =>
            simp only [Bool.false_eq_true, if_false]
            exact (put_new_no B T lab fs fv sv _ pm c0 hc0 key x hv hx hk h3 w h.1 (hfit _ hf) hp hfl).mono fun _ _ ho => .out h ho
          | true =>
            simp only [if_true]
            cases hpm : pm with
            | none => exact (put_new_first B T lab fs fv sv _ pm c0 hc0 key x hv hx hk h3 w h.1 (hfit _ hf) hB hpm hfl).mono fun _ _ ho => by subst hpm; exact .did h ho
            | some b => exact (put_new_more B T lab fs fv sv _ pm c0 hc0 key x hv hx hk h3 w h.1 (hfit _ hf) hB b hpm hp hlen hfl).mono fun _ _ ho => by subst hpm; exact .did h ho
        | some i =>
          obtain ⟨f, hf', -⟩ := placeOf_some hp
          simp only [hf']
          cases hfl : flowsB (c0 ||| key.l) f.2.l with
          | false =>
            simp only [Bool.false_eq_true, if_false]
            exact (put_found_no B T lab fs fv sv _ pm c0 hc0 key x hv hx hk h3 w h.1 (hfit _ hf) i hp (fun g hg => by rw [hf'] at hg; cases hg; exact hfl)).mono fun _ _ ho => .out h ho
          | true =>
            simp only [if_true]
            exact (put_found B T lab fs fv sv _ pm c0 hc0 key x hv hx hk h3 w h.1 (hfit _ hf) hB i hp (fun g hg => by rw [hf'] at hg; cases hg; exact hfl)).mono fun _ _ ⟨g, hg, ho⟩ => by
              rw [hf'] at hg
              cases hg
              exact .did h ho
    · have h2 : key.k = 2 := by rcases keyB_kind hk with h9 | h9 <;> omega
      rw [if_neg (by simp [h3])]
      cases hp : placeOf fs key with
      | none =>
        cases hfl : flowsB (c0 ||| key.l) lab with
        | false =>
          simp only [Bool.false_eq_true, if_false]
          exact (put_new_no2 B T lab fs fv sv _ pm c0 hc0 key x hv hx hk h2 w h.1 hp hfl).mono fun _ _ ho => .out h ho
        | true =>
          simp only [if_true]
          cases hpm : pm with
          | none => exact (put_new_first2 B T lab fs fv sv _ pm c0 hc0 key x hv hx hk h2 w h.1 hB hpm hfl).mono fun _ _ ho => by subst hpm; exact .did h ho
          | some b => exact (put_new_more2 B T lab fs fv sv _ pm c0 hc0 key x hv hx hk h2 w h.1 hB b hpm hp hlen hfl).mono fun _ _ ho => by subst hpm; exact .did h ho
      | some i =>
        obtain ⟨f, hf', -⟩ := placeOf_some hp
        simp only [hf']
        cases hfl : flowsB (c0 ||| key.l) f.2.l with
        | false =>
          simp only [Bool.false_eq_true, if_false]
          exact (put_found_no2 B T lab fs fv sv _ pm c0 hc0 key x hv hx hk h2 w h.1 i hp (fun g hg => by rw [hf'] at hg; cases hg; exact hfl)).mono fun _ _ ho => .out h ho
        | true =>
          simp only [if_true]
          exact (put_found2 B T lab fs fv sv _ pm c0 hc0 key x hv hx hk h2 w h.1 hB i hp (fun g hg => by rw [hf'] at hg; cases hg; exact hfl)).mono fun _ _ ⟨g, hg, ho⟩ => by
            rw [hf'] at hg
            cases hg
            exact .did h ho
end TabD
end Go.Proofs.Ytpmbbkhhnkhcbaa
