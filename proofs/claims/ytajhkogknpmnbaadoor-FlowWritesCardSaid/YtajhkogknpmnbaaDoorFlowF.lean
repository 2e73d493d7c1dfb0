/- Ways through a graph that end, and the places that each of them has. Plain: nothing of the program is named. -/
import Derived.Test.YtajhkogknpmnbaaDoorFlowE
import Derived.OwnWalk
import Derived.Laws.OwnMore
namespace Go.Proofs.YtajhkogknpmnbaaDoor
namespace FlowM

/-- A way from a place to the end (none): the places that it goes through. -/
inductive Way (next : Nat → List (Option Nat)) : Nat → List Nat → Prop
  | stop {n : Nat} : none ∈ next n → Way next n [n]
  | step {n m : Nat} {l : List Nat} : some m ∈ next n → Way next m l → Way next n (n :: l)
/-- Whether any way leads to the end. -/
def Live (next : Nat → List (Option Nat)) (n : Nat) : Prop := ∃ l, Way next n l
/-- Whether each way from n to the end has p. -/
def Cut (next : Nat → List (Option Nat)) (n p : Nat) : Prop := ∀ l, Way next n l → p ∈ l
variable {next : Nat → List (Option Nat)}

theorem way_head {n : Nat} {l : List Nat} (h : Way next n l) : ∃ r, l = n :: r := by
  cases h with
  | stop h => exact ⟨[], rfl⟩
  | step h h2 => exact ⟨_, rfl⟩
theorem way_split : ∀ {a : List Nat} {n p : Nat} {b : List Nat}, Way next n (a ++ p :: b) → Way next p (p :: b)
  | [], n, p, b, h => by
    obtain ⟨r, hr⟩ := way_head h
    simp only [List.nil_append, List.cons.injEq] at hr
    obtain ⟨rfl, rfl⟩ := hr
    exact h
  | x :: a, n, p, b, h => by
    generalize e : (x :: a) ++ p :: b = l at h
    cases h with
    | step h1 h2 =>
      simp only [List.cons_append, List.cons.injEq] at e
      obtain ⟨_, rfl⟩ := e
      exact way_split h2
    | stop h1 => simp at e
theorem way_join : ∀ {a : List Nat} {n p : Nat} {b c : List Nat}, Way next n (a ++ p :: b) → Way next p (p :: c) → Way next n (a ++ p :: c)
  | [], n, p, b, c, h, h2 => by
    obtain ⟨r, hr⟩ := way_head h
    simp only [List.nil_append, List.cons.injEq] at hr
    obtain ⟨rfl, rfl⟩ := hr
    exact h2
  | x :: a, n, p, b, c, h, h2 => by
    generalize e : (x :: a) ++ p :: b = l at h
    cases h with
    | step h1 h3 =>
      simp only [List.cons_append, List.cons.injEq] at e
      obtain ⟨rfl, rfl⟩ := e
      exact .step h1 (way_join h3 h2)
    | stop h1 => simp at e
theorem cut_self (n : Nat) : Cut next n n := fun l h => by
  obtain ⟨r, rfl⟩ := way_head h
  simp
theorem cut_trans {n p q : Nat} (h : Cut next n p) (h2 : Cut next p q) : Cut next n q := fun l hl => by
  obtain ⟨a, b, rfl⟩ := List.append_of_mem (h l hl)
  exact List.mem_append_right _ (h2 _ (way_split hl))
theorem live_cut {n p : Nat} (hn : Live next n) (h : Cut next n p) : Live next p := by
  obtain ⟨l, hl⟩ := hn
  obtain ⟨a, b, rfl⟩ := List.append_of_mem (h l hl)
  exact ⟨_, way_split hl⟩
/-- The first of two places that a list has. -/
theorem first_of {p q : Nat} : ∀ {l : List Nat}, p ∈ l → ∃ a x b, l = a ++ x :: b ∧ (x = p ∨ x = q) ∧ p ∉ a ∧ q ∉ a
  | y :: r, h => by
    by_cases hp : y = p
    · exact ⟨[], y, r, rfl, .inl hp, by simp, by simp⟩
    by_cases hq : y = q
    · exact ⟨[], y, r, rfl, .inr hq, by simp, by simp⟩
    have hr : p ∈ r := by
      rcases List.mem_cons.1 h with e | e
      · exact absurd e.symm hp
      · exact e
    obtain ⟨a, x, b, rfl, hx, h1, h2⟩ := first_of (q := q) hr
    exact ⟨y :: a, x, b, rfl, hx, by simp [h1, Ne.symm hp], by simp [h2, Ne.symm hq]⟩
/-- What each way has lies one behind the other. -/
theorem cut_chain {n p q : Nat} (hn : Live next n) (hp : Cut next n p) (hq : Cut next n q) : Cut next p q ∨ Cut next q p := by
  by_cases h : Cut next p q
  · exact .inl h
  by_cases h2 : Cut next q p
  · exact .inr h2
  exfalso
  obtain ⟨c, hc, hcq⟩ : ∃ c, Way next p c ∧ q ∉ c := by
    apply Classical.byContradiction
    intro hx
    exact h fun l hl => Classical.byContradiction fun hm => hx ⟨l, hl, hm⟩
  obtain ⟨d, hd, hdp⟩ : ∃ d, Way next q d ∧ p ∉ d := by
    apply Classical.byContradiction
    intro hx
    exact h2 fun l hl => Classical.byContradiction fun hm => hx ⟨l, hl, hm⟩
  obtain ⟨l, hl⟩ := hn
  obtain ⟨a, x, b, rfl, hx, hpa, hqa⟩ := first_of (q := q) (hp l hl)
  rcases hx with rfl | rfl
  · obtain ⟨r, rfl⟩ := way_head hc
    have := hq _ (way_join hl hc)
    rcases List.mem_append.1 this with h3 | h3
    · exact hqa h3
    · exact hcq h3
  · obtain ⟨r, rfl⟩ := way_head hd
    have := hp _ (way_join hl hd)
    rcases List.mem_append.1 this with h3 | h3
    · exact hpa h3
    · exact hdp h3
theorem cut_antisymm {p q : Nat} (hp : Live next p) (h : Cut next p q) (h2 : Cut next q p) : p = q := by
  obtain ⟨l, hl⟩ := hp
  have key : ∀ (k : Nat) (l : List Nat), l.length = k → Way next p l → p = q := by
    intro k
    induction k using Nat.strongRecOn with
    | _ k ih =>
      intro l hk hl
      obtain ⟨a, b, rfl⟩ := List.append_of_mem (h l hl)
      have h3 := way_split hl
      obtain ⟨a2, b2, e⟩ := List.append_of_mem (h2 _ h3)
      rw [e] at h3
      cases a2 with
      | nil =>
        simp only [List.nil_append, List.cons.injEq] at e
        exact e.1.symm
      | cons y r =>
        have h4 := way_split h3
        refine ih (p :: b2).length ?_ _ rfl h4
        have e2 := congrArg List.length e
        simp only [List.length_cons, List.length_append] at e2 hk ⊢
        omega
  exact key _ l rfl hl
/-- What each way from a place has: the place, and what each way from each of those behind it has. -/
theorem cut_step {n p : Nat} : Cut next n p ↔ p = n ∨ (none ∉ next n ∧ ∀ m, some m ∈ next n → Cut next m p) := by
  constructor
  · intro h
    by_cases e : p = n
    · exact .inl e
    · refine .inr ⟨fun hn => ?_, fun m hm l hl => ?_⟩
      · have := h _ (.stop hn)
        simp at this
        exact e this
      · have := h _ (.step hm hl)
        rcases List.mem_cons.1 this with h1 | h1
        · exact absurd h1 e
        · exact h1
  · rintro (rfl | ⟨h1, h2⟩)
    · exact cut_self p
    · intro l hl
      cases hl with
      | stop h => exact absurd h h1
      | step h h3 => exact List.mem_cons_of_mem _ (h2 _ h _ h3)
/-- Any family of sets that keeps the step says no more. -/
theorem cut_most {T : Nat → Nat → Prop} (hT : ∀ n p, T n p → p = n ∨ (none ∉ next n ∧ ∀ m, some m ∈ next n → Live next m → T m p)) {n p : Nat} (h : T n p) : Cut next n p := by
  intro l hl
  induction hl with
  | stop h1 =>
    rcases hT _ _ h with rfl | ⟨h2, _⟩
    · simp
    · exact absurd h1 h2
  | step h1 h2 ih =>
    rcases hT _ _ h with rfl | ⟨_, h3⟩
    · simp
    · exact List.mem_cons_of_mem _ (ih (h3 _ h1 ⟨_, h2⟩))
/-- A way that has not come to the end: from n to m, through places other than p. -/
inductive Goes (next : Nat → List (Option Nat)) (p : Nat) : Nat → Nat → Prop
  | here {n : Nat} : n ≠ p → Goes next p n n
  | step {n m k : Nat} : n ≠ p → some m ∈ next n → Goes next p m k → Goes next p n k
theorem goes_way {p : Nat} {n m : Nat} (h : Goes next p n m) : ∀ {l : List Nat}, Way next m l → p ∉ l → ∃ l2, Way next n l2 ∧ p ∉ l2 := by
  induction h with
  | here h => exact fun hl hp => ⟨_, hl, hp⟩
  | step h1 h2 _ ih =>
    intro l hl hp
    obtain ⟨l2, h3, h4⟩ := ih hl hp
    exact ⟨_, .step h2 h3, by simp [h4, Ne.symm h1]⟩
theorem way_goes {p q : Nat} : ∀ {a : List Nat} {n : Nat} {b : List Nat}, Way next n (a ++ q :: b) → p ∉ a → q ≠ p → Goes next p n q
  | [], n, b, h, _, hq => by
    obtain ⟨r, hr⟩ := way_head h
    simp only [List.nil_append, List.cons.injEq] at hr
    obtain ⟨rfl, rfl⟩ := hr
    exact .here hq
  | x :: a, n, b, h, ha, hq => by
    simp only [List.mem_cons, not_or] at ha
    generalize e : (x :: a) ++ q :: b = l at h
    cases h with
    | step h1 h3 =>
      simp only [List.cons_append, List.cons.injEq] at e
      obtain ⟨rfl, rfl⟩ := e
      exact .step (Ne.symm ha.1) h1 (way_goes h3 ha.2 hq)
    | stop h1 => simp at e
/-- The nearest of those that each way has: by what each of its own ways has, or by what is come to without it. -/
theorem nearest_iff {n p : Nat} (hn : Live next n) (hp : Cut next n p) : (∀ q, q ≠ n → Cut next n q → Cut next p q) ↔ (∀ q, q ≠ n → q ≠ p → Cut next n q → ¬ Goes next p n q) ∨ p = n := by
  constructor
  · intro h
    by_cases e : p = n
    · exact .inr e
    refine .inl fun q hqn hqp hq hg => ?_
    have h1 := h q hqn hq
    have hl := live_cut hn hq
    have h2 : Cut next q p := by
      intro l hl2
      apply Classical.byContradiction
      intro hm
      obtain ⟨l2, h3, h4⟩ := goes_way hg hl2 hm
      exact h4 (hp _ h3)
    exact hqp (cut_antisymm hl h2 h1)
  · rintro (h | rfl)
    · intro q hqn hq
      by_cases e : q = p
      · subst e
        exact cut_self q
      apply Classical.byContradiction
      intro hc
      obtain ⟨c, hcw, hcq⟩ : ∃ c, Way next p c ∧ q ∉ c := by
        apply Classical.byContradiction
        intro hx
        exact hc fun l hl => Classical.byContradiction fun hm => hx ⟨l, hl, hm⟩
      obtain ⟨l, hl⟩ := hn
      obtain ⟨a, x, b, rfl, hx, hqa, hpa⟩ := first_of (q := p) (hq l hl)
      rcases hx with rfl | rfl
      · exact h x hqn e hq (way_goes hl hpa e)
      · obtain ⟨r, rfl⟩ := way_head hcw
        rcases List.mem_append.1 (hq _ (way_join hl hcw)) with h3 | h3
        · exact hqa h3
        · exact hcq h3
    · exact fun q _ hq => hq
theorem count_eq {f g : Nat → Bool} : ∀ {l : List Nat}, (∀ x ∈ l, f x = true → g x = true) → l.countP g ≤ l.countP f → ∀ x ∈ l, g x = true → f x = true
  | [], _, _, x, hx, _ => by cases hx
  | y :: r, h, he, x, hx, hg => by
    have hr : ∀ x ∈ r, f x = true → g x = true := fun x hx => h x (List.mem_cons_of_mem _ hx)
    have hle : r.countP f ≤ r.countP g := List.countP_mono_left hr
    have hy := h y List.mem_cons_self
    rw [List.countP_cons, List.countP_cons] at he
    cases hf : f y <;> cases hgy : g y <;> simp only [hf, hgy, if_true, if_false, Bool.false_eq_true] at he hy
    · rcases List.mem_cons.1 hx with rfl | hx
      · rw [hgy] at hg; cases hg
      · exact count_eq hr (by omega) x hx hg
    · omega
    · exact absurd trivial (by simp at hy)
    · rcases List.mem_cons.1 hx with rfl | hx
      · exact hf
      · exact count_eq hr (by omega) x hx hg
theorem count_but {g : Nat → Bool} {n : Nat} : ∀ {l : List Nat}, l.Nodup → n ∈ l → g n = true → l.countP g = l.countP (fun x => g x && x != n) + 1
  | y :: r, hd, hm, hg => by
    rw [List.nodup_cons] at hd
    rw [List.countP_cons, List.countP_cons]
    by_cases e : y = n
    · subst e
      have : r.countP g = r.countP (fun x => g x && x != y) := by
        apply List.countP_congr
        intro x hx
        have : x ≠ y := fun e => hd.1 (e ▸ hx)
        simp [this]
      simp [hg, this]
    · have hr : n ∈ r := by
        rcases List.mem_cons.1 hm with h | h
        · exact absurd h.symm e
        · exact h
      have := count_but hd.2 hr hg
      simp only [this]
      cases g y <;> simp [e] <;> omega
/-- The nearest, by how many places lie on each way. -/
theorem nearest_size {m n p : Nat} {C : Nat → Nat → Bool} (hC : ∀ a b, a < m → b < m → (C a b = true ↔ Cut next a b)) (hl : Live next n) (hn : n < m) (hpm : p < m) (hpn : p ≠ n) (hp : Cut next n p) :
    ((List.range m).countP (C p) + 1 = (List.range m).countP (C n)) ↔ ∀ q, q < m → q ≠ n → Cut next n q → Cut next p q := by
  have hb := count_but (g := C n) (n := n) (l := List.range m) List.nodup_range (List.mem_range.2 hn) ((hC n n hn hn).2 (cut_self n))
  have hsub : ∀ x ∈ List.range m, C p x = true → (C n x && x != n) = true := by
    intro x hx h
    have hx := List.mem_range.1 hx
    have h1 := (hC p x hpm hx).1 h
    have h2 := (hC n x hn hx).2 (cut_trans hp h1)
    have h3 : x ≠ n := by
      rintro rfl
      exact hpn (cut_antisymm (live_cut hl hp) h1 hp)
    simp [h2, h3]
  constructor
  · intro h q hq hqn hc
    have := count_eq hsub (by omega) q (List.mem_range.2 hq) (by simp [(hC n q hn hq).2 hc, hqn])
    exact (hC p q hpm hq).1 this
  · intro h
    have h1 : (List.range m).countP (C p) = (List.range m).countP (fun x => C n x && x != n) := by
      apply List.countP_congr
      intro x hx
      constructor
      · exact hsub x hx
      · intro h2
        simp only [Bool.and_eq_true, bne_iff_ne, ne_eq] at h2
        have hx := List.mem_range.1 hx
        exact (hC p x hpm hx).2 (h x hx h2.2 ((hC n x hn hx).1 h2.1))
    omega
/-- What a place's set is made of: itself, and what all sets behind it have (those of places that no way leads on from say nothing). -/
def stepF (next : Nat → List (Option Nat)) (live : Nat → Bool) (T : Nat → Nat → Bool) (n p : Nat) : Bool :=
  p == n || (next n).all fun s => match s with | none => false | some m => !live m || T m p
theorem stepF_iff {live : Nat → Bool} {T : Nat → Nat → Bool} {n p : Nat} : stepF next live T n p = true ↔ p = n ∨ (none ∉ next n ∧ ∀ m, some m ∈ next n → live m = true → T m p = true) := by
  unfold stepF
  rw [Bool.or_eq_true, beq_iff_eq, List.all_eq_true]
  refine or_congr Iff.rfl ⟨fun h => ⟨fun hn => by simpa using h none hn, fun m hm hl => by simpa [hl] using h (some m) hm⟩, fun h s hs => ?_⟩
  cases s with
  | none => exact absurd hs h.1
  | some m =>
    cases hl : live m with
    | false => simp [hl]
    | true => simp [h.2 m hs hl]
theorem stepF_mono {live : Nat → Bool} {T U : Nat → Nat → Bool} (h : ∀ n p, live n = true → U n p = true → T n p = true) {n p : Nat} (hp : stepF next live U n p = true) : stepF next live T n p = true := by
  rw [stepF_iff] at hp ⊢
  rcases hp with h1 | ⟨h1, h2⟩
  · exact .inl h1
  · exact .inr ⟨h1, fun m hm hl => h m p hl (h2 m hm hl)⟩
/-- A family with one place's set made anew. -/
def anew (next : Nat → List (Option Nat)) (live : Nat → Bool) (T : Nat → Nat → Bool) (n : Nat) : Nat → Nat → Bool := fun k p => if k = n then stepF next live T n p else T k p
theorem anew_less {live : Nat → Bool} {T : Nat → Nat → Bool} {n : Nat} (hD : ∀ k p, live k = true → stepF next live T k p = true → T k p = true) : ∀ k p, live k = true → anew next live T n k p = true → T k p = true := by
  intro k p hk h
  unfold anew at h
  split at h
  · rename_i e
    subst e
    exact hD _ _ hk h
  · exact h
theorem anew_keeps {live : Nat → Bool} {T : Nat → Nat → Bool} {n : Nat} (hD : ∀ k p, live k = true → stepF next live T k p = true → T k p = true) : ∀ k p, live k = true → stepF next live (anew next live T n) k p = true → anew next live T n k p = true := by
  intro k p hk h
  have h1 := stepF_mono (anew_less (n := n) hD) h
  unfold anew
  split
  · rename_i e
    subst e
    exact h1
  · exact hD _ _ hk h1
theorem anew_holds {live : Nat → Bool} {T : Nat → Nat → Bool} {n : Nat} (hT : ∀ k p, live k = true → Cut next k p → T k p = true) : ∀ k p, live k = true → Cut next k p → anew next live T n k p = true := by
  intro k p hl hc
  unfold anew
  split
  · rename_i e
    subst e
    rw [stepF_iff]
    rcases cut_step.1 hc with h | ⟨h1, h2⟩
    · exact .inl h
    · exact .inr ⟨h1, fun m hm hlm => hT m p hlm (h2 m hm)⟩
  · exact hT k p hl hc
/-- Where nothing changes any more, the sets are what each way has. -/
theorem settled {live : Nat → Bool} {T : Nat → Nat → Bool} (hL : ∀ n, Live next n → live n = true) (hT : ∀ k p, live k = true → Cut next k p → T k p = true)
    (hs : ∀ n p, live n = true → T n p = true → stepF next live T n p = true) {n p : Nat} (hn : live n = true) : T n p = true ↔ Cut next n p := by
  refine ⟨fun h => ?_, fun h => hT n p hn h⟩
  refine cut_most (T := fun n p => live n = true ∧ T n p = true) (fun n p h => ?_) ⟨hn, h⟩
  rcases stepF_iff.1 (hs n p h.1 h.2) with h1 | ⟨h1, h2⟩
  · exact .inl h1
  · exact .inr ⟨h1, fun m hm hl => ⟨hL m hl, h2 m hm (hL m hl)⟩⟩
theorem sum_le {f g : Nat → Nat} : ∀ {o : List Nat}, (∀ k ∈ o, f k ≤ g k) → (o.map f).sum ≤ (o.map g).sum
  | [], _ => Nat.le_refl _
  | k :: r, h => by
    simp only [List.map_cons, List.sum_cons]
    have := sum_le (o := r) fun k hk => h k (List.mem_cons_of_mem _ hk)
    have := h k List.mem_cons_self
    omega
theorem sum_less {f g : Nat → Nat} {n : Nat} : ∀ {o : List Nat}, (∀ k ∈ o, f k ≤ g k) → n ∈ o → f n < g n → (o.map f).sum < (o.map g).sum
  | k :: r, h, hm, hl => by
    simp only [List.map_cons, List.sum_cons]
    have hr : ∀ k ∈ r, f k ≤ g k := fun k hk => h k (List.mem_cons_of_mem _ hk)
    have hk := h k List.mem_cons_self
    rcases List.mem_cons.1 hm with rfl | hm
    · have := sum_le hr
      omega
    · have := sum_less hr hm hl
      omega
/-- How much all the sets hold. -/
def holds (T : Nat → Nat → Bool) (o : List Nat) : Nat := (o.map fun n => (List.range 64).countP (T n)).sum
/-- Each change makes them hold less. -/
theorem anew_shrinks {live : Nat → Bool} {T : Nat → Nat → Bool} {n : Nat} {o : List Nat} (hD : ∀ k p, live k = true → stepF next live T k p = true → T k p = true) (ho : ∀ k ∈ o, live k = true) (hn : n ∈ o)
    (hc : ∃ p, p < 64 ∧ T n p = true ∧ stepF next live T n p = false) : holds (anew next live T n) o < holds T o := by
  have hle : ∀ k ∈ o, (List.range 64).countP (anew next live T n k) ≤ (List.range 64).countP (T k) := fun k hk => List.countP_mono_left fun x _ h => anew_less hD k x (ho k hk) h
  refine sum_less (n := n) hle hn ?_
  obtain ⟨p, hp, h1, h2⟩ := hc
  apply Nat.lt_of_not_le
  intro h
  have := count_eq (f := anew next live T n n) (g := T n) (fun x _ h => anew_less hD n x (ho n hn) h) h p (List.mem_range.2 hp) h1
  simp only [anew, if_true] at this
  rw [h2] at this
  cases this
/-- Where a place's set made anew is as it was, nothing changes. -/
theorem anew_same {live : Nat → Bool} {T : Nat → Nat → Bool} {n : Nat} (h : ∀ p, stepF next live T n p = T n p) : anew next live T n = T := by
  funext k p
  unfold anew
  split
  · rename_i e
    subst e
    exact h p
  · rfl
/-- What is come to from some places, never through one that is shut. -/
inductive Come (start : List (Option Nat)) (next : Nat → List (Option Nat)) (shut : Nat → Bool) : Nat → Prop
  | first {x : Nat} : some x ∈ start → shut x = false → Come start next shut x
  | then {x y : Nat} : Come start next shut y → some x ∈ next y → shut x = false → Come start next shut x
/-- A list that has the first ones, and with each what comes behind it, has all. -/
theorem come_all {start : List (Option Nat)} {shut : Nat → Bool} {found : List Nat} (h1 : ∀ x, some x ∈ start → shut x = false → x ∈ found)
    (h2 : ∀ y ∈ found, ∀ x, some x ∈ next y → shut x = false → x ∈ found) {x : Nat} (h : Come start next shut x) : x ∈ found := by
  induction h with
  | first h hs => exact h1 _ h hs
  | «then» _ h hs ih => exact h2 _ ih _ h hs
/-- From which places a way leads to the end: by the ways turned round. -/
theorem live_iff {last : List (Option Nat)} {ahead : Nat → List (Option Nat)} (h1 : ∀ n, some n ∈ last ↔ none ∈ next n) (h2 : ∀ n m, some n ∈ ahead m ↔ some m ∈ next n) {n : Nat} : Come last ahead (fun _ => false) n ↔ Live next n := by
  constructor
  · intro h
    induction h with
    | first h _ => exact ⟨_, .stop ((h1 _).1 h)⟩
    | «then» _ h _ ih =>
      obtain ⟨l, hl⟩ := ih
      exact ⟨_, .step ((h2 _ _).1 h) hl⟩
  · rintro ⟨l, hl⟩
    induction hl with
    | stop h => exact .first ((h1 _).2 h) rfl
    | step h _ ih => exact .then ih ((h2 _ _).2 h) rfl
/-- What goes from n without p, by what is come to from what lies behind n. -/
theorem goes_come {n p q : Nat} (hqn : q ≠ n) (hnp : n ≠ p) : Goes next p n q ↔ Come (next n) next (fun x => x == p) q := by
  have up : ∀ {x y : Nat}, Goes next p x y → x ≠ p := by
    intro x y h
    cases h with
    | here h => exact h
    | step h _ _ => exact h
  constructor
  · intro h
    have key : ∀ {a b : Nat}, Goes next p a b → a = n ∨ Come (next n) next (fun x => x == p) a → b = n ∨ Come (next n) next (fun x => x == p) b := by
      intro a b h
      induction h with
      | here h => exact id
      | step h1 h2 h3 ih =>
        intro hc
        refine ih (.inr ?_)
        have hm := up h3
        rcases hc with rfl | hc
        · exact .first h2 (by simpa using hm)
        · exact .then hc h2 (by simpa using hm)
    rcases key h (.inl rfl) with h | h
    · exact absurd h hqn
    · exact h
  · intro h
    have app : ∀ {a b c : Nat}, Goes next p a b → some c ∈ next b → c ≠ p → Goes next p a c := by
      intro a b c h
      induction h with
      | here h => exact fun h2 h3 => .step h h2 (.here h3)
      | step h1 h2 _ ih => exact fun h3 h4 => .step h1 h2 (ih h3 h4)
    induction h with
    | first h hs => exact .step hnp h (.here (by simpa using hs))
    | «then» _ h hs ih =>
      rename_i x y hy
      by_cases e : y = n
      · subst e
        exact .step hnp h (.here (by simpa using hs))
      · exact app (ih e) h (by simpa using hs)
end FlowM
end Go.Proofs.YtajhkogknpmnbaaDoor
namespace Go.Proofs.YtajhkogknpmnbaaDoor
open Go.RowKit ObjM
namespace FlowD
open FlowM

/-- A place, or the end. -/
def toO (z : Int) : Option Nat := if z = -1 then none else some z.toNat
theorem toO_some {z : Int} {x : Nat} (hz : z = -1 ∨ 0 ≤ z) : toO z = some x ↔ z = (x : Int) := by
  unfold toO
  split
  · rename_i h
    subst h
    constructor
    · intro h; cases h
    · intro h; omega
  · constructor
    · intro h
      injection h with h
      omega
    · intro h
      subst h
      simp
theorem toO_none {z : Int} : toO z = none ↔ z = -1 := by
  unfold toO
  split <;> simp [*]
theorem mem_toO {zs : List Int} (hr : ∀ z ∈ zs, z = -1 ∨ 0 ≤ z ∧ z < 64) {x : Nat} : some x ∈ zs.map toO ↔ (x : Int) ∈ zs := by
  rw [List.mem_map]
  constructor
  · rintro ⟨z, hz, he⟩
    rw [toO_some ((hr z hz).imp id (·.1))] at he
    exact he ▸ hz
  · intro h
    exact ⟨_, h, (toO_some (.inr (by omega))).2 rfl⟩
theorem mem_toO_none {zs : List Int} : none ∈ zs.map toO ↔ (-1 : Int) ∈ zs := by
  rw [List.mem_map]
  constructor
  · rintro ⟨z, hz, he⟩
    rw [toO_none] at he
    exact he ▸ hz
  · intro h
    exact ⟨_, h, toO_none.2 rfl⟩
/-- What spreading holds on to: what was seen at first, what was seen, what was found. -/
structure Spr (s0 : Nat) (st : Nat × List Int) : Prop where
  pos : ∀ z ∈ st.2, 0 ≤ z ∧ z < 64
  nodup : st.2.Nodup
  seen : ∀ x : Nat, x < 64 → (st.1.testBit x = true ↔ s0.testBit x = true ∨ (x : Int) ∈ st.2)
  old : ∀ x : Nat, (x : Int) ∈ st.2 → s0.testBit x = false
theorem spr_start (s0 : Nat) : Spr s0 (s0, []) := ⟨by simp, by simp, by simp, by simp⟩
theorem test_or_pow (s q x : Nat) : (s ||| 2 ^ q).testBit x = (s.testBit x || decide (q = x)) := by
  rw [Nat.testBit_or, Nat.testBit_two_pow]
theorem spr_step {s0 : Nat} {st : Nat × List Int} (h : Spr s0 st) {z : Int} (hz : z = -1 ∨ 0 ≤ z ∧ z < 64) : Spr s0 (moreS st z) := by
  unfold moreS
  split
  · exact h
  · rename_i hz1
    obtain ⟨q, rfl⟩ := Int.eq_ofNat_of_zero_le (show 0 ≤ z by omega)
    have hq : q < 64 := by omega
    simp only [Int.toNat_natCast]
    split
    · exact h
    · rename_i ht
      have hb := h.seen q hq
      have hnq : ¬ (s0.testBit q = true ∨ (q : Int) ∈ st.2) := fun hx => ht (hb.2 hx)
      refine ⟨?_, ?_, ?_, ?_⟩
      · intro y hy
        rcases List.mem_append.1 hy with h1 | h1
        · exact h.pos y h1
        · simp at h1; subst h1; omega
      · rw [List.nodup_append]
        refine ⟨h.nodup, by simp, ?_⟩
        intro a ha b hb2 e
        simp at hb2
        subst hb2 e
        exact hnq (.inr ha)
      · intro x hx
        rw [test_or_pow, Bool.or_eq_true, h.seen x hx, decide_eq_true_eq, List.mem_append, List.mem_singleton]
        constructor
        · rintro ((h1 | h1) | h1)
          · exact .inl h1
          · exact .inr (.inl h1)
          · subst h1; exact .inr (.inr rfl)
        · rintro (h1 | h1 | h1)
          · exact .inl (.inl h1)
          · exact .inl (.inr h1)
          · exact .inr (by omega)
      · intro x hx
        rcases List.mem_append.1 hx with h1 | h1
        · exact h.old x h1
        · simp at h1
          have h2 : x = q := by omega
          subst h2
          exact Bool.eq_false_iff.2 fun e => hnq (.inl e)
theorem spr_more {s0 : Nat} {zs : List Int} : ∀ {st : Nat × List Int}, Spr s0 st → (∀ z ∈ zs, z = -1 ∨ 0 ≤ z ∧ z < 64) → Spr s0 (moreF st zs) := by
  induction zs with
  | nil => exact fun h _ => h
  | cons z r ih => exact fun h hr => ih (spr_step h (hr z List.mem_cons_self)) fun y hy => hr y (List.mem_cons_of_mem _ hy)
theorem moreS_pre (st : Nat × List Int) (z : Int) : st.2 <+: (moreS st z).2 := by
  unfold moreS
  split
  · exact List.prefix_refl _
  · split
    · exact List.prefix_refl _
    · exact List.prefix_append _ _
theorem more_pre {zs : List Int} : ∀ (st : Nat × List Int), st.2 <+: (moreF st zs).2 := by
  induction zs with
  | nil => exact fun st => List.prefix_refl _
  | cons z r ih => exact fun st => (moreS_pre st z).trans (ih _)
/-- What of a list was not seen at first is found. -/
theorem more_has {s0 : Nat} {zs : List Int} : ∀ {st : Nat × List Int}, Spr s0 st → (∀ z ∈ zs, z = -1 ∨ 0 ≤ z ∧ z < 64) → ∀ x : Nat, (x : Int) ∈ zs → s0.testBit x = false → (x : Int) ∈ (moreF st zs).2 := by
  induction zs with
  | nil => intro st _ _ x hx; cases hx
  | cons z r ih =>
    intro st h hr x hx h0
    have h1 := spr_step h (hr z List.mem_cons_self)
    have hr2 : ∀ y ∈ r, y = -1 ∨ 0 ≤ y ∧ y < 64 := fun y hy => hr y (List.mem_cons_of_mem _ hy)
    rcases List.mem_cons.1 hx with e | hx
    · subst e
      have hx64 : x < 64 := by have := hr _ List.mem_cons_self; omega
      refine (more_pre (zs := r) (moreS st x)).subset ?_
      unfold moreS
      rw [if_neg (by omega)]
      simp only [Int.toNat_natCast]
      split
      · rename_i ht
        rcases (h.seen x hx64).1 ht with h2 | h2
        · rw [h0] at h2; cases h2
        · exact h2
      · simp
    · exact ih h1 hr2 x hx h0
/-- What is found was found, or is of the list and was not seen at first. -/
theorem more_only {zs : List Int} : ∀ {st : Nat × List Int} {z : Int}, z ∈ (moreF st zs).2 → z ∈ st.2 ∨ z ∈ zs := by
  induction zs with
  | nil => exact fun h => .inl h
  | cons y r ih =>
    intro st z h
    rcases ih (st := moreS st y) h with h1 | h1
    · unfold moreS at h1
      split at h1
      · exact .inl h1
      · split at h1
        · exact .inl h1
        · rcases List.mem_append.1 h1 with h2 | h2
          · exact .inl h2
          · simp at h2
            exact .inr (by rw [h2]; exact List.mem_cons_self)
    · exact .inr (List.mem_cons_of_mem _ h1)
/-- How far the spreading has come: j of those found were gone through. -/
structure Spd (next : Nat → List Int) (start : List Int) (s0 : Nat) (st : Nat × List Int) (j : Nat) : Prop where
  s : Spr s0 st
  come : ∀ x : Nat, (x : Int) ∈ st.2 → Come (start.map toO) (fun n => (next n).map toO) (fun n => s0.testBit n) x
  first : ∀ x : Nat, (x : Int) ∈ start → s0.testBit x = false → (x : Int) ∈ st.2
  gone : ∀ (i : Nat) (hi : i < st.2.length), i < j → ∀ x : Nat, (x : Int) ∈ next (st.2[i]).toNat → s0.testBit x = false → (x : Int) ∈ st.2
theorem spd_start {next : Nat → List Int} {start : List Int} {s0 : Nat} (hr : ∀ z ∈ start, z = -1 ∨ 0 ≤ z ∧ z < 64) : Spd next start s0 (moreF (s0, []) start) 0 := by
  have h := spr_more (spr_start s0) hr
  refine ⟨h, ?_, fun x hx h0 => more_has (spr_start s0) hr x hx h0, fun i hi h => by omega⟩
  intro x hx
  rcases more_only hx with h1 | h1
  · simp at h1
  · exact .first ((mem_toO hr).2 h1) (h.old x hx)
theorem spd_step {next : Nat → List Int} {start : List Int} {s0 : Nat} {st : Nat × List Int} {j : Nat} (h : Spd next start s0 st j) (hj : j < st.2.length) {n : Nat} (hn : st.2[j] = (n : Int)) (hr : ∀ z ∈ next n, z = -1 ∨ 0 ≤ z ∧ z < 64) :
    Spd next start s0 (moreF st (next n)) (j + 1) := by
  have hs := spr_more h.s hr
  have hp := more_pre (zs := next n) st
  refine ⟨hs, ?_, fun x hx h0 => hp.subset (h.first x hx h0), ?_⟩
  · intro x hx
    rcases more_only hx with h1 | h1
    · exact h.come x h1
    · exact .then (h.come n (hn ▸ List.getElem_mem hj)) ((mem_toO hr).2 h1) (hs.old x hx)
  · intro i hi hij x hx h0
    have e : (moreF st (next n)).2[i] = st.2[i]'(by omega) := by
      obtain ⟨t, ht⟩ := hp
      simp only [← ht]
      exact List.getElem_append_left _
    rw [e] at hx
    by_cases hij2 : i < j
    · exact hp.subset (h.gone i (by omega) hij2 x hx h0)
    · have : i = j := by omega
      subst this
      rw [hn, Int.toNat_natCast] at hx
      exact more_has h.s hr x hx h0
theorem nodup_len : ∀ {n : Nat} {l : List Int}, l.Nodup → (∀ z ∈ l, 0 ≤ z ∧ z < n) → l.length ≤ n
  | 0, l, _, hp => by
    cases l with
    | nil => simp
    | cons z r => have := hp z List.mem_cons_self; omega
  | n + 1, l, hd, hp => by
    have h1 := nodup_len (n := n) (l := l.erase n) (hd.erase _) (fun z hz => by
      have h2 := (hd.mem_erase_iff (a := z) (b := (n : Int))).1 hz
      have := hp z h2.2
      have := h2.1
      omega)
    by_cases hm : (n : Int) ∈ l
    · rw [List.length_erase_of_mem hm] at h1
      omega
    · rw [List.erase_of_not_mem hm] at h1
      omega
theorem Spr.len {s0 : Nat} {st : Nat × List Int} (h : Spr s0 st) : st.2.length ≤ 64 := nodup_len h.nodup (fun z hz => h.pos z hz)
/-- All are found. -/
theorem spd_end {next : Nat → List Int} {start : List Int} {s0 : Nat} {st : Nat × List Int} (hr : ∀ z ∈ start, z = -1 ∨ 0 ≤ z ∧ z < 64) (hn : ∀ n : Nat, n < 64 → ∀ z ∈ next n, z = -1 ∨ 0 ≤ z ∧ z < 64) (h : Spd next start s0 st st.2.length) (x : Nat) :
    (x : Int) ∈ st.2 ↔ Come (start.map toO) (fun n => (next n).map toO) (fun n => s0.testBit n) x := by
  refine ⟨h.come x, fun hc => ?_⟩
  have key := come_all (start := start.map toO) (next := fun n => (next n).map toO) (shut := fun n => s0.testBit n) (found := st.2.map Int.toNat) ?_ ?_ hc
  · obtain ⟨z, hz, he⟩ := List.mem_map.1 key
    have := h.s.pos z hz
    have e : z = (x : Int) := by omega
    exact e ▸ hz
  · intro y hy h0
    exact List.mem_map.2 ⟨_, h.first y ((mem_toO hr).1 hy) h0, by simp⟩
  · intro y hy z hz h0
    obtain ⟨u, hu, rfl⟩ := List.mem_map.1 hy
    obtain ⟨i, hi, hiu⟩ := List.getElem_of_mem hu
    have hp := h.s.pos u hu
    have hz2 := (mem_toO (hn u.toNat (by omega))).1 hz
    exact List.mem_map.2 ⟨_, h.gone i hi hi z (by rw [hiu]; exact hz2) h0, by simp⟩
end FlowD
end Go.Proofs.YtajhkogknpmnbaaDoor
namespace Go.Proofs.YtajhkogknpmnbaaDoor
open Go.RowKit ObjM
namespace FlowD
open InstrM InstrD

theorem RowAt.lt {w : World} {F : Nat} {zs : List Int} (h : RowAt w F zs) : F < w.heap.size := by
  obtain ⟨fcs, hf, _⟩ := h
  exact hf.lt
theorem RowAt.below {B : Nat} {w w' : World} {F : Nat} {zs : List Int} (h : RowAt w F zs) (hb : Below B w w') (hF : F < B) : RowAt w' F zs := by
  obtain ⟨fcs, hf, hi⟩ := h
  exact ⟨fcs, hf.below hb hF, hi⟩
theorem RowAt.keeps {S : List Nat} {w w' : World} {F : Nat} {zs : List Int} (h : RowAt w F zs) (k : Keeps S w w') (hF : F ∉ S) : RowAt w' F zs := by
  obtain ⟨fcs, hf, hi⟩ := h
  exact ⟨fcs, Has.keeps hf k hF, hi⟩
theorem RowAt.cell {w : World} {F : Nat} {zs : List Int} (h : RowAt w F zs) {i : Nat} (hi : i < zs.length) : w.cell? ⟨F, i, none⟩ = some (.int .i64 zs[i]) := by
  obtain ⟨fcs, hf, hc⟩ := h
  exact (hf.cell i).trans (hc i hi)
/-- What was made is read. -/
theorem row_of_own {w : World} {B : Nat} {v : Value} {l : List Int} (h : w.ownsRow B 3 1 v l.length (l.map (Value.int .i64))) :
    (l = [] ∧ v = .slice none 0 0) ∨ ∃ g cap, v = .slice (some ⟨g, 0, none⟩) l.length cap ∧ B ≤ g ∧ RowAt w g l := by
  rcases own_shape h with ⟨h1, h2, h3⟩ | ⟨g, cap, cs, h1, h2, h3, h4, h5, h6, h7⟩
  · exact .inl ⟨by simpa using h3, h1⟩
  · refine .inr ⟨g, cap, h1, h2, cs, h3, fun i hi => ?_⟩
    have h8 : (l.map (Value.int .i64))[i]? = some (.int .i64 l[i]) := by simp [hi]
    rw [← h7, List.getElem?_take] at h8
    split at h8
    · exact h8
    · cases h8
/-- A list of places: where it lies, its room, what it holds. -/
def lstV (l : Nat × Nat × List Int) : Value := .slice (some ⟨l.1, 0, none⟩) l.2.2.length l.2.1
def lstCells (Ls : List (Nat × Nat × List Int)) (m : Nat) : List Value := Ls.map lstV ++ List.replicate (m - Ls.length) (.slice none 0 0)
/-- Lists of places in a row of m. -/
structure ListsTo (w : World) (N m : Nat) (Ls : List (Nat × Nat × List Int)) : Prop where
  n : Has w N 26 (lstCells Ls m)
  r : ∀ l ∈ Ls, RowAt w l.1 l.2.2
theorem ListsTo.below {B : Nat} {w w' : World} {N m : Nat} {Ls : List (Nat × Nat × List Int)} (h : ListsTo w N m Ls) (hb : Below B w w') (hN : N < B) (hB : w.heap.size ≤ B) : ListsTo w' N m Ls :=
  ⟨h.n.below hb hN, fun l hl => (h.r l hl).below hb (Nat.lt_of_lt_of_le (h.r l hl).lt hB)⟩
theorem lst_set {Ls : List (Nat × Nat × List Int)} {m : Nat} (h : Ls.length < m) (l : Nat × Nat × List Int) : (lstCells Ls m).set Ls.length (lstV l) = lstCells (Ls ++ [l]) m := by
  unfold lstCells
  have e1 : Ls.length = (Ls.map lstV).length := by simp
  conv => lhs; arg 2; rw [e1]
  rw [List.set_append_right _ _ (Nat.le_refl _), Nat.sub_self, List.map_append]
  cases e : m - Ls.length with
  | zero => omega
  | succ q =>
    have e2 : m - (Ls ++ [l]).length = q := by simp; omega
    rw [e2, List.replicate_succ, List.set_cons_zero]
    simp
theorem lst_get {Ls : List (Nat × Nat × List Int)} {m i : Nat} (h : i < Ls.length) : (lstCells Ls m)[i]? = some (lstV Ls[i]) := by
  unfold lstCells
  rw [List.getElem?_append_left (by simpa using h)]
  simp [h]
theorem lst_len {Ls : List (Nat × Nat × List Int)} {m : Nat} (h : Ls.length ≤ m) : (lstCells Ls m).length = m := by
  simp [lstCells]
  omega
theorem ListsTo.push {w w' : World} {N m : Nat} {Ls : List (Nat × Nat × List Int)} (h : ListsTo w N m Ls) (hb : Below w.heap.size w w') (hm : Ls.length < m) {l : Nat × Nat × List Int} (hl : RowAt w' l.1 l.2.2) :
    ListsTo (w'.setCell ⟨N, Ls.length, none⟩ (lstV l)) N m (Ls ++ [l]) := by
  have h2 := h.below hb h.n.lt (Nat.le_refl _)
  have key : ∀ {F : Nat} {zs : List Int}, RowAt w' F zs → RowAt (w'.setCell ⟨N, Ls.length, none⟩ (lstV l)) F zs := by
    rintro F zs ⟨fcs, hf, hi⟩
    exact ⟨fcs, Has.keeps hf (Keeps.set _ _ _ _) (by simpa using hf.ne h2.n (by decide)), hi⟩
  refine ⟨?_, ?_⟩
  · rw [← lst_set hm]
    exact h2.n.set _ _
  · intro x hx
    rcases List.mem_append.1 hx with h3 | h3
    · exact key (h2.r x h3)
    · simp at h3
      subst h3
      exact key hl
theorem made_has {w1 : World} {B G m : Nat} {e : TypeId} {z : Value} (hrow : w1.ownsRow B e 1 (.slice (some ⟨G, 0, none⟩) m m) m (madeCells #[z] m).toList) : Has w1 G e (List.replicate m z) := by
  rcases own_shape hrow with ⟨h, _⟩ | ⟨g, cap, cs, h1, h2, h3, h4, h5, h6, h7⟩
  · cases h
  · injection h1 with e1 e2 e3
    injection e1 with e1
    injection e1 with e1
    subst e1 e3
    rw [Nat.mul_one] at h6 h7
    rw [List.take_of_length_le (by omega)] at h7
    have h8 : (madeCells #[z] m).toList = List.replicate m z := toList_madeCells_one _ _
    rw [← h8, ← h7]
    exact h3
theorem infoRows : (Tryd.prog.info? 26).map (fun i => (i.zero, i.size, i.bytes)) = some (some (.slice none 0 0), 1, 24) := by kernel_rfl
theorem nextV_ne {ws : List Nat} {k : Nat} (h : k < ws.length) : nextV ws (k : Int) ≠ [] := by
  unfold nextV
  rw [if_neg (by omega)]
  unfold leadV
  split
  · simp
  split
  · simp
  split
  · unfold bothV
    split <;> simp
  · simp
/-- Where each word leads. -/
def nextsV (ws : List Nat) (k : Nat) : List (List Int) := (List.range k).map fun (n : Nat) => nextV ws (n : Int)
theorem nextsV_succ (ws : List Nat) (k : Nat) : nextsV ws (k + 1) = nextsV ws k ++ [nextV ws (k : Int)] := by
  simp [nextsV, List.range_succ]
set_option maxRecDepth 100000 in
set_option maxHeartbeats 8000000 in
theorem nexts_any (p : PrV) (ws : List Nat) (w : World) (hw : WordsAt w p ws) (hT : Tabs w) : Calls Tryd.prog 25 #[p.agg] w fun e w' => ∃ N Ls, e = .returned (.slice (some ⟨N, 0, none⟩) p.wn p.wn) ∧ w.heap.size ≤ N ∧ ListsTo w' N p.wn Ls ∧ Ls.map (·.2.2) = nextsV ws p.wn ∧ Below w.heap.size w w' := by
  obtain ⟨hx, hb⟩ := pr_box w p
  obtain ⟨i0, hi, hz0, hz1, hz2⟩ := info_parts infoRows
  have HB := Lib.hid hb
  have HX : Hid (∀ W, Below (w.heap.size + 1) (w.alloc (.cells #[.slice p.a0 p.n0 p.c0, .int .i64 p.rg, .slice p.wa p.wn p.wc, .slice p.a3 p.n3 p.c3, .slice p.a4 p.n4 p.c4, .slice p.a5 p.n5 p.c5] 28)) W → (W.cell? ⟨w.heap.size, 0, none⟩ = some (.slice p.a0 p.n0 p.c0) ∧ W.cell? ⟨w.heap.size, 1, none⟩ = some (.int .i64 p.rg) ∧ W.cell? ⟨w.heap.size, 2, none⟩ = some (.slice p.wa p.wn p.wc) ∧ W.cell? ⟨w.heap.size, 3, none⟩ = some (.slice p.a3 p.n3 p.c3) ∧ W.cell? ⟨w.heap.size, 4, none⟩ = some (.slice p.a4 p.n4 p.c4) ∧ W.cell? ⟨w.heap.size, 5, none⟩ = some (.slice p.a5 p.n5 p.c5)) ∧ w.heap.size < W.heap.size ∧ Below w.heap.size w W) := Lib.hid (fun W hW => by
    have g := hx.below hW (by omega)
    exact ⟨⟨g.cell 0, g.cell 1, g.cell 2, g.cell 3, g.cell 4, g.cell 5⟩, g.lt, hb.trans (hW.mono (by omega))⟩)
  have HB0 := Lib.hid (Below.refl (w.heap.size + 1) (w.alloc (.cells #[.slice p.a0 p.n0 p.c0, .int .i64 p.rg, .slice p.wa p.wn p.wc, .slice p.a3 p.n3 p.c3, .slice p.a4 p.n4 p.c4, .slice p.a5 p.n5 p.c5] 28)))
  have HN := Lib.hid (fun (n : Nat) (hn : n ≤ 1000000) (W : World) (hW : Below w.heap.size w W) => next_any p ws (n : Int) W (hw.below hW) (by omega) (hT.below hW))
  have HL := Lib.hid hw.len
  have hsm := hw.small
  have hm : p.wn ≤ 1000000 := by rw [hw.len]; exact hsm
  obtain ⟨x0, x1, x2, x3, x4, x5⟩ := (HX.out _ HB0.out).1
  have lx := (HX.out _ HB0.out).2.1
  have hsz1 : (w.alloc (.cells #[.slice p.a0 p.n0 p.c0, .int .i64 p.rg, .slice p.wa p.wn p.wc, .slice p.a3 p.n3 p.c3, .slice p.a4 p.n4 p.c4, .slice p.a5 p.n5 p.c5] 28)).heap.size = w.heap.size + 1 := by simp
  unfold PrV.agg at HN ⊢
  clear hx hb hw hT hsm
  go_enter Tryd.func25, Tryd.ntmps25
  go_wp2_with (at_make; refine wpList_make_full _ rfl _ _ 48 rfl (w.heap.size + 1) 26 i0 (.slice none 0 0) 1 Tryd.underlying48 hi hz0 hz1 .i64 .i64 (p.wn : Int) (p.wn : Int) p.wn rfl rfl rfl rfl ?c1 ?c2 ?c3 ?_)
  case c1 => rw [hz2]; omega
  case c2 => unfold maxLen; omega
  case c3 => simp
  intro w2 hrow hgrow
  generalize (w.alloc (.cells #[.slice p.a0 p.n0 p.c0, .int .i64 p.rg, .slice p.wa p.wn p.wc, .slice p.a3 p.n3 p.c3, .slice p.a4 p.n4 p.c4, .slice p.a5 p.n5 p.c5] 28)) = W1 at x0 x1 x2 x3 x4 x5 lx HX HB0 HB hsz1 hrow hgrow ⊢
  have hh := made_has hrow
  have hb2 : Below (w.heap.size + 1) W1 w2 := (Below.refl _ W1).grown hgrow (by omega) (fun k hk => by cases hk)
  have HS0 : Hid (ListsTo w2 (w.heap.size + 1) p.wn [] ∧ Below (w.heap.size + 1) W1 w2) := Lib.hid ⟨⟨by simpa [lstCells] using hh, by simp⟩, hb2⟩
  obtain ⟨⟨y0, y1, y2, y3, y4, y5⟩, ly, -⟩ := HX.out _ hb2
  clear hrow hgrow hh hb2 hi hz0 hz1 hz2 x0 x1 x2 x3 x4 x5 lx hsz1
  go_wp2
  go_loopw [12] (fun i wr => ∃ (j : Nat) (Ls : List (Nat × Nat × List Int)), i = .int .i64 (j : Int) ∧ j ≤ p.wn ∧ Ls.length = j ∧ Hid (ListsTo wr (w.heap.size + 1) p.wn Ls ∧ Below (w.heap.size + 1) W1 wr) ∧ Hid (Ls.map (·.2.2) = nextsV ws j)) (fun i _ => p.wn - (intOf i).toNat)
  case atStart => exact ⟨0, [], rfl, by omega, rfl, HS0, Lib.hid rfl⟩
  case round =>
    obtain ⟨j, Ls, rfl, hj, hlen, HS, HE⟩ := hrel
    clear HS0 y0 y1 y2 y3 y4 y5 ly
    by_cases hlt : j < p.wn
    · have hi1 : (j : Int) < (p.wn : Int) := by omega
      have hi0 : (0 : Int) ≤ (j : Int) := by omega
      obtain ⟨⟨y0, y1, y2, y3, y4, y5⟩, ly, hW⟩ := HX.out _ HS.out.2
      have HC := Lib.hid (HN.out j (by omega) wr hW)
      have HNE := Lib.hid (nextV_ne (ws := ws) (k := j) (by rw [← HL.out]; exact hlt))
      clear hW
      go_wp2_with fail
      refine HC.out.mono ?_
      rintro e w5 ⟨v, rfl, ho, hb5⟩
      rcases row_of_own ho with ⟨h1, _⟩ | ⟨g, cap, rfl, hg, hrow⟩
      · exact absurd h1 HNE.out
      have h6 : ListsTo (w5.setCell ⟨w.heap.size + 1, j, none⟩ (.slice (some ⟨g, 0, none⟩) (nextV ws (j : Int)).length cap)) (w.heap.size + 1) p.wn (Ls ++ [(g, cap, nextV ws (j : Int))]) := by
        have := HS.out.1.push hb5 (by omega) (l := (g, cap, nextV ws (j : Int))) hrow
        rwa [hlen] at this
      have hb6 : Below (w.heap.size + 1) W1 (w5.setCell ⟨w.heap.size + 1, j, none⟩ (.slice (some ⟨g, 0, none⟩) (nextV ws (j : Int)).length cap)) := Below.setCell (HS.out.2.trans (hb5.mono (Nat.le_trans HB0.out.size HS.out.2.size |> fun h => by have := HS.out.1.n.lt; omega))) (Nat.le_refl _) _
      have HS2 : Hid (_ ∧ _) := Lib.hid ⟨h6, hb6⟩
      have HE2 : Hid ((Ls ++ [(g, cap, nextV ws (j : Int))]).map (·.2.2) = nextsV ws (j + 1)) := Lib.hid (by rw [nextsV_succ, ← HE.out]; simp)
      have hn5 := HS.out.1.n.below hb5 HS.out.1.n.lt
      have f5 := hn5.frozen j
      have l5 := hn5.lt
      obtain ⟨c5, hc5⟩ : ∃ c5, w5.cell? ⟨w.heap.size + 1, j, none⟩ = some c5 := by
        rw [hn5.cell]
        exact ⟨_, List.getElem?_eq_getElem (by rw [lst_len (by omega)]; exact hlt)⟩
      have hlen2 : (Ls ++ [(g, cap, nextV ws (j : Int))]).length = j + 1 := by simp [hlen]
      generalize (nextV ws (j : Int)).length = q at HS2 h6 hb6
      clear h6 hb6 hn5 HC ho hb5 hg hrow HS y0 y1 y2 y3 y4 y5 ly
      go_wp2
      go_roundw
      case rel => exact ⟨j + 1, _, by go_num, by omega, hlen2, HS2, HE2⟩
      case measure => simp [intOf]; omega
    · have hjm : j = p.wn := by omega
      subst hjm
      have HS2 : Hid (ListsTo wr (w.heap.size + 1) p.wn Ls ∧ Below w.heap.size w wr) := Lib.hid ⟨HS.out.1, (HX.out _ HS.out.2).2.2⟩
      clear HS
      go_wp2
      go_ret
      exact ⟨_, Ls, rfl, by omega, HS2.out.1, HE.out, HS2.out.2⟩
end FlowD
end Go.Proofs.YtajhkogknpmnbaaDoor
namespace Go.Proofs.YtajhkogknpmnbaaDoor
open Go.RowKit ObjM
namespace FlowD

/-- What was found so far, and what was seen (no list is read). -/
structure SpA (w : World) (B T G L : Nat) (v : Value) (st : Nat × List Int) : Prop where
  t : Has w T 54 [.slice (some ⟨G, 0, none⟩) 1 1]
  g : SetAt w G st.1
  x : st.1 < LabelM.M64
  l : Has w L 26 [v]
  o : w.ownsRow B 3 1 v st.2.length (st.2.map (Value.int .i64))
  b : B ≤ G ∧ B ≤ L
theorem SpA.to {w : World} {B T G L F : Nat} {v : Value} {st : Nat × List Int} {zs : List Int} (h : SpA w B T G L v st) (hf : RowAt w F zs) (hd : ∀ g, v.ownBlock = some g → g ≠ F) : SpAt w B T G L F v st zs := ⟨h.t, h.g, h.x, h.l, h.o, h.b, hf, hd⟩
theorem SpAt.core {w : World} {B T G L F : Nat} {v : Value} {st : Nat × List Int} {zs : List Int} (h : SpAt w B T G L F v st zs) : SpA w B T G L v st := ⟨h.t, h.g, h.x, h.l, h.o, h.b⟩
theorem SpA.keeps {w w' : World} {B T G L : Nat} {v : Value} {st : Nat × List Int} (h : SpA w B T G L v st) (k : Keeps [] w w') : SpA w' B T G L v st :=
  ⟨h.t.keeps k (by simp), Has.keeps h.g k (by simp), h.x, h.l.keeps k (by simp), own_keeps h.o k (fun _ _ => by simp), h.b⟩
theorem SpA.shape {w : World} {B T G L : Nat} {v : Value} {st : Nat × List Int} (h : SpA w B T G L v st) : (v = .slice none 0 0 ∧ st.2 = []) ∨ ∃ g cap, v = .slice (some ⟨g, 0, none⟩) st.2.length cap ∧ B ≤ g ∧ g < w.heap.size ∧ RowAt w g st.2 := by
  rcases row_of_own h.o with ⟨h1, h2⟩ | ⟨g, cap, h1, h2, h3⟩
  · exact .inl ⟨h2, h1⟩
  · exact .inr ⟨g, cap, h1, h2, h3.lt, h3⟩
/-- What a list hands over: nothing, or a row of its own. -/
def Hands (n0 : Nat) (W : World) (G : Nat) (a : Value) (zs : List Int) : Prop := (a = .slice none 0 0 ∧ zs = []) ∨ ∃ F c, a = .slice (some ⟨F, 0, none⟩) zs.length c ∧ RowAt W F zs ∧ (F < G ∨ n0 ≤ F)
set_option maxRecDepth 100000 in
theorem more_nil (T L : Nat) (w : World) : Calls Tryd.prog 55 #[.slice none 0 0, .pointer (some ⟨T, 0, none⟩), .pointer (some ⟨L, 0, none⟩)] w fun e w' => e = .returned (.tuple #[]) ∧ w = w' := by
  go_enter Tryd.func55, Tryd.ntmps55
  go_wp2
  go_loopw [8] (fun i wr => i = .int .i64 0 ∧ w = wr) (fun _ _ => 0)
  case atStart => exact ⟨rfl, rfl⟩
  case round =>
    obtain ⟨rfl, rfl⟩ := hrel
    go_wp2
    go_end0
    exact ⟨rfl, rfl⟩
theorem more_empty (st : Nat × List Int) : moreF st [] = st := rfl
/-- One list's share. -/
theorem more_all {n0 : Nat} (B T G L : Nat) (v a : Value) (st : Nat × List Int) (zs : List Int) (hz : zs.length ≤ 1000) (hst : st.2.length ≤ 100000) (hr : ∀ z ∈ zs, z = -1 ∨ 0 ≤ z ∧ z < 64) (w : World) (hB : B ≤ w.heap.size) (h : SpA w B T G L v st)
    (ha : Hands n0 w B a zs) (hv : v = .slice none 0 0 ∨ ∀ g, v.ownBlock = some g → g < n0) :
    Calls Tryd.prog 55 #[a, .pointer (some ⟨T, 0, none⟩), .pointer (some ⟨L, 0, none⟩)] w fun e w' => e = .returned (.tuple #[]) ∧ ∃ v', SpA w' B T G L v' (moreF st zs) ∧ Below B w w' := by
  rcases ha with ⟨rfl, rfl⟩ | ⟨F, c, rfl, hf, hF⟩
  · refine (more_nil T L w).mono ?_
    rintro e w' ⟨rfl, rfl⟩
    exact ⟨rfl, v, h, Below.refl _ _⟩
  · refine (more_any B T G L F c v st zs hz hst hr w hB (h.to hf ?_)).mono ?_
    · intro g hg e
      subst e
      rcases hv with rfl | hv
      · cases hg
      · have h1 := hv g hg
        have h2 := (own_lt h.o g hg).1
        omega
    · rintro e w' ⟨rfl, v', h2, hb⟩
      exact ⟨rfl, v', h2.core, hb⟩
end FlowD
end Go.Proofs.YtajhkogknpmnbaaDoor
