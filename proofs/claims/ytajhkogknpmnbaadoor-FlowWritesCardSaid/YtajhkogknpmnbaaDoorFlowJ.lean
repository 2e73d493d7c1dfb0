/- Sets of places settle: what each round makes of them. -/
import Derived.Test.YtajhkogknpmnbaaDoorFlow19
import Derived.Test.YtajhkogknpmnbaaDoorFlowI
import Derived.Laws.CopyOwn
import Derived.Laws.Tables
namespace Go.Proofs.YtajhkogknpmnbaaDoor
open Go.RowKit ObjM
namespace FlowD
open FlowM PopM

def nxO (next : Nat → List Int) : Nat → List (Option Nat) := fun n => (next n).map toO
def bitT (ys : Nat → Nat) : Nat → Nat → Bool := fun n p => (ys n).testBit p
def ssOf (m : Nat) (live : Nat → Bool) (Hf ys : Nat → Nat) : List (Option (Nat × Nat)) := (List.range m).map fun q => if live q = true then some (Hf q, ys q) else none
theorem ss_len (m : Nat) (live : Nat → Bool) (Hf ys : Nat → Nat) : (ssOf m live Hf ys).length = m := by simp [ssOf]
theorem ss_get {m : Nat} {live : Nat → Bool} {Hf ys : Nat → Nat} {q : Nat} (h : q < m) : (ssOf m live Hf ys)[q]? = some (if live q = true then some (Hf q, ys q) else none) := by
  unfold ssOf
  rw [List.getElem?_map, List.getElem?_range h]
  rfl
def updY (ys : Nat → Nat) (n x : Nat) : Nat → Nat := fun k => if k = n then x else ys k
/-- What is known of the places from which a way leads to the end. -/
structure LiveP (next : Nat → List Int) (m : Nat) (live : Nat → Bool) : Prop where
  m64 : m ≤ 64
  nx : Nx next m
  lm : ∀ n, live n = true → n < m
  ll : ∀ n, live n = true ↔ Live (nxO next) n
theorem way_in {next : Nat → List Int} {m : Nat} (hN : Nx next m) {n : Nat} {l : List Nat} (h : FlowM.Way (nxO next) n l) : ∀ x ∈ l, x < m := by
  have key : ∀ {n : Nat} {o : Option Nat}, o ∈ nxO next n → n < m := by
    intro n o ho
    apply Nat.lt_of_not_le
    intro hle
    unfold nxO at ho
    rw [hN.o n hle] at ho
    cases ho
  induction h with
  | stop h => intro x hx; simp at hx; subst hx; exact key h
  | step h _ ih =>
    intro x hx
    rcases List.mem_cons.1 hx with rfl | hx
    · exact key h
    · exact ih x hx
theorem LiveP.lead {next : Nat → List Int} {m : Nat} {live : Nat → Bool} (h : LiveP next m live) {n : Nat} (hn : live n = true) : none ∈ nxO next n ∨ ∃ k, some k ∈ nxO next n ∧ live k = true := by
  obtain ⟨l, hl⟩ := (h.ll n).1 hn
  cases hl with
  | stop h1 => exact .inl h1
  | step h1 h2 => exact .inr ⟨_, h1, (h.ll _).2 ⟨_, h2⟩⟩
/-- The sets, as words of bits. -/
structure SetP (next : Nat → List Int) (live : Nat → Bool) (ys : Nat → Nat) : Prop where
  lt : ∀ n, live n = true → ys n < LabelM.M64
  d : ∀ k p, live k = true → stepF (nxO next) live (bitT ys) k p = true → bitT ys k p = true
  t : ∀ k p, live k = true → Cut (nxO next) k p → bitT ys k p = true
theorem high_bit {x p : Nat} (hx : x < LabelM.M64) (hp : 64 ≤ p) : x.testBit p = false := by
  apply Nat.testBit_lt_two_pow
  have : (2 : Nat) ^ 64 ≤ 2 ^ p := Nat.pow_le_pow_right (by decide) hp
  have e : LabelM.M64 = 2 ^ 64 := by decide
  omega
theorem step_high {next : Nat → List Int} {m : Nat} {live : Nat → Bool} {ys : Nat → Nat} (h : LiveP next m live) (hl : ∀ n, live n = true → ys n < LabelM.M64) {n p : Nat} (hn : live n = true) (hp : 64 ≤ p) : stepF (nxO next) live (bitT ys) n p = false := by
  rw [Bool.eq_false_iff]
  intro hs
  have := h.lm n hn
  have := h.m64
  rcases stepF_iff.1 hs with e | ⟨h1, h2⟩
  · omega
  · rcases h.lead hn with h3 | ⟨k, h3, h4⟩
    · exact h1 h3
    · have h5 := h2 k h3 h4
      rw [bitT, high_bit (hl k h4) hp] at h5
      cases h5
def okZ (sets : List (Option (Nat × Nat))) (p : Nat) (z : Int) : Bool := if z = -1 then false else match sets.getD z.toNat none with
  | none => true
  | some x => x.2.testBit p
theorem meet_bits (sets : List (Option (Nat × Nat))) (p : Nat) : ∀ (zs : List Int) (a : Nat), (zs.foldl (meetS sets) a).testBit p = (a.testBit p && zs.all (okZ sets p))
  | [], a => by simp
  | z :: r, a => by
    rw [List.foldl_cons, meet_bits sets p r, List.all_cons]
    have e : (meetS sets a z).testBit p = (a.testBit p && okZ sets p z) := by
      unfold meetS okZ
      split
      · simp
      · cases e : sets.getD z.toNat none with
        | none => simp
        | some x => simp
    rw [e, Bool.and_assoc]
theorem full_bit (p : Nat) : (18446744073709551615 : Nat).testBit p = decide (p < 64) := by
  rw [show (18446744073709551615 : Nat) = 2 ^ 64 - 1 from rfl, Nat.testBit_two_pow_sub_one]
def newY (m : Nat) (live : Nat → Bool) (Hf ys : Nat → Nat) (next : Nat → List Int) (n : Nat) : Nat := meetV (ssOf m live Hf ys) (next n) ||| 2 ^ n
theorem pow_m64 {n : Nat} (h : n < 64) : 2 ^ n < LabelM.M64 := Nat.lt_of_lt_of_eq (Nat.pow_lt_pow_right (m := n) (n := 64) (a := 2) (by decide) h) (by decide)
theorem new_lt {m : Nat} {live : Nat → Bool} {Hf ys : Nat → Nat} {next : Nat → List Int} {n : Nat} (hn : n < 64) : newY m live Hf ys next n < LabelM.M64 := LabelM.or_lt (meetV_lt _ _) (pow_m64 hn)
/-- A place's set made anew, bit by bit. -/
theorem new_bit {next : Nat → List Int} {m : Nat} {live : Nat → Bool} {Hf ys : Nat → Nat} (h : LiveP next m live) (hl : ∀ n, live n = true → ys n < LabelM.M64) {n : Nat} (hn : live n = true) (p : Nat) : (newY m live Hf ys next n).testBit p = stepF (nxO next) live (bitT ys) n p := by
  have hnm := h.lm n hn
  have h64 := h.m64
  by_cases hp : p < 64
  · have e1 : (newY m live Hf ys next n).testBit p = ((next n).all (okZ (ssOf m live Hf ys) p) || decide (n = p)) := by
      unfold newY meetV
      rw [test_or_pow, meet_bits, full_bit]
      simp [hp]
    rw [e1, Bool.eq_iff_iff, stepF_iff, Bool.or_eq_true, List.all_eq_true, decide_eq_true_eq]
    constructor
    · rintro (h1 | h1)
      · refine .inr ⟨fun h2 => ?_, fun k h2 h3 => ?_⟩
        · have := h1 _ (mem_toO_none.1 h2)
          simp [okZ] at this
        · have hk := h.lm k h3
          obtain ⟨z, hz, hzk⟩ := List.mem_map.1 h2
          rw [toO_some ((h.nx.r n z hz).imp id (·.1))] at hzk
          subst hzk
          have h4 := h1 _ hz
          unfold okZ at h4
          rw [if_neg (by omega), Int.toNat_natCast, List.getD_eq_getElem?_getD, ss_get hk, if_pos h3] at h4
          exact h4
      · exact .inl h1.symm
    · rintro (h1 | ⟨h1, h2⟩)
      · exact .inr h1.symm
      · refine .inl fun z hz => ?_
        unfold okZ
        rcases h.nx.r n z hz with h3 | h3
        · subst h3
          exact absurd (mem_toO_none.2 hz) h1
        · obtain ⟨k, rfl⟩ := Int.eq_ofNat_of_zero_le h3.1
          have hk : k < m := by omega
          rw [if_neg (by omega), Int.toNat_natCast, List.getD_eq_getElem?_getD, ss_get hk]
          cases e : live k with
          | false => simp
          | true =>
            simp only [if_true, Option.getD_some]
            exact h2 k (List.mem_map.2 ⟨_, hz, (toO_some (.inr (by omega))).2 rfl⟩) e
  · have hp : 64 ≤ p := by omega
    rw [high_bit (new_lt (by omega)) hp, step_high h hl hn hp]
theorem bitT_upd {next : Nat → List Int} {m : Nat} {live : Nat → Bool} {Hf ys : Nat → Nat} (h : LiveP next m live) (hl : ∀ n, live n = true → ys n < LabelM.M64) {n : Nat} (hn : live n = true) : bitT (updY ys n (newY m live Hf ys next n)) = anew (nxO next) live (bitT ys) n := by
  funext k p
  unfold bitT updY anew
  split
  · rw [new_bit h hl hn]
    rfl
  · rfl
/-- At first all sets are full. -/
theorem setP_start {next : Nat → List Int} {m : Nat} {live : Nat → Bool} (h : LiveP next m live) : SetP next live (fun _ => 18446744073709551615) := by
  have hl : ∀ n, live n = true → (fun _ : Nat => 18446744073709551615) n < LabelM.M64 := fun _ _ => (by decide : (18446744073709551615 : Nat) < LabelM.M64)
  refine ⟨hl, ?_, ?_⟩
  · intro k p hk hs
    by_cases hp : p < 64
    · simp [bitT, full_bit, hp]
    · rw [step_high h hl hk (by omega)] at hs
      cases hs
  · intro k p hk hc
    obtain ⟨l, hw⟩ := (h.ll k).1 hk
    have h1 := way_in h.nx hw p (hc l hw)
    have := h.m64
    simp [bitT, full_bit, show p < 64 by omega]
theorem SetP.step {next : Nat → List Int} {m : Nat} {live : Nat → Bool} {Hf ys : Nat → Nat} (h : LiveP next m live) (hs : SetP next live ys) {n : Nat} (hn : live n = true) : SetP next live (updY ys n (newY m live Hf ys next n)) := by
  have e := bitT_upd (Hf := Hf) h hs.lt hn
  refine ⟨?_, ?_, ?_⟩
  · intro k hk
    unfold updY
    split
    · have := h.lm n hn
      have := h.m64
      exact new_lt (by omega)
    · exact hs.lt k hk
  · rw [e]
    exact anew_keeps hs.d
  · rw [e]
    exact anew_holds hs.t
theorem SetP.shrinks {next : Nat → List Int} {m : Nat} {live : Nat → Bool} {Hf ys : Nat → Nat} {o : List Nat} (h : LiveP next m live) (hs : SetP next live ys) {n : Nat} (hn : n ∈ o) (ho : ∀ k ∈ o, live k = true) (hne : newY m live Hf ys next n ≠ ys n) :
    holds (bitT (updY ys n (newY m live Hf ys next n))) o < holds (bitT ys) o := by
  have hl := ho n hn
  rw [bitT_upd h hs.lt hl]
  refine anew_shrinks hs.d ho hn ?_
  apply Classical.byContradiction
  intro hx
  apply hne
  apply Nat.eq_of_testBit_eq
  intro p
  rw [new_bit h hs.lt hl]
  cases e : stepF (nxO next) live (bitT ys) n p with
  | true => exact (hs.d n p hl e).symm
  | false =>
    cases e2 : (ys n).testBit p with
    | false => rfl
    | true =>
      exfalso
      refine hx ⟨p, ?_, e2, e⟩
      apply Nat.lt_of_not_le
      intro hp
      rw [high_bit (hs.lt n hl) hp] at e2
      cases e2
/-- The last rounds changed nothing. -/
def Stay (next : Nat → List Int) (m : Nat) (live : Nat → Bool) (Hf ys : Nat → Nat) (o : List Nat) (at' stayed : Nat) : Prop :=
  ∀ t, t < at' → at' ≤ t + stayed → ∀ n, o[t % o.length]? = some n → newY m live Hf ys next n = ys n
theorem stay_none {next : Nat → List Int} {m : Nat} {live : Nat → Bool} {Hf ys : Nat → Nat} {o : List Nat} {at' : Nat} : Stay next m live Hf ys o at' 0 := fun t h1 h2 => by omega
theorem Stay.more {next : Nat → List Int} {m : Nat} {live : Nat → Bool} {Hf ys : Nat → Nat} {o : List Nat} {at' stayed n : Nat} (h : Stay next m live Hf ys o at' stayed) (hn : o[at' % o.length]? = some n) (he : newY m live Hf ys next n = ys n) : Stay next m live Hf ys o (at' + 1) (stayed + 1) := by
  intro t h1 h2 k hk
  by_cases e : t = at'
  · subst e
    rw [hn] at hk
    injection hk with hk
    exact hk ▸ he
  · exact h t (by omega) (by omega) k hk
theorem Stay.all {next : Nat → List Int} {m : Nat} {live : Nat → Bool} {Hf ys : Nat → Nat} {o : List Nat} {at' : Nat} (h : Stay next m live Hf ys o at' o.length) (hat : o.length ≤ at') : ∀ n ∈ o, newY m live Hf ys next n = ys n := by
  intro n hn
  obtain ⟨i, hi, hin⟩ := List.getElem_of_mem hn
  have hL : 0 < o.length := by omega
  obtain ⟨b, hb⟩ : ∃ b, at' = b + 1 := ⟨at' - 1, by omega⟩
  have hdm := Nat.div_add_mod b o.length
  have hr := Nat.mod_lt b hL
  generalize b % o.length = r at hdm hr
  generalize b / o.length = q at hdm
  by_cases hir : i ≤ r
  · refine h (o.length * q + i) (by omega) (by omega) n ?_
    rw [Nat.mul_add_mod, Nat.mod_eq_of_lt hi, List.getElem?_eq_getElem hi, hin]
  · have hq : 0 < q := by
      apply Nat.pos_of_ne_zero
      rintro rfl
      rw [Nat.mul_zero] at hdm
      omega
    obtain ⟨q2, rfl⟩ : ∃ q2, q = q2 + 1 := ⟨q - 1, by omega⟩
    rw [Nat.mul_succ] at hdm
    refine h (o.length * q2 + i) (by omega) (by omega) n ?_
    rw [Nat.mul_add_mod, Nat.mod_eq_of_lt hi, List.getElem?_eq_getElem hi, hin]
/-- Where nothing changes, the sets are what each way has. -/
theorem SetP.done {next : Nat → List Int} {m : Nat} {live : Nat → Bool} {Hf ys : Nat → Nat} (h : LiveP next m live) (hs : SetP next live ys) (ha : ∀ n, live n = true → newY m live Hf ys next n = ys n) {n p : Nat} (hn : live n = true) : (ys n).testBit p = true ↔ Cut (nxO next) n p := by
  refine settled (live := live) (T := bitT ys) (fun n hn => (h.ll n).2 hn) hs.t (fun n p hn hp => ?_) hn
  rw [← new_bit (Hf := Hf) h hs.lt hn, ha n hn]
  exact hp
end FlowD
end Go.Proofs.YtajhkogknpmnbaaDoor
namespace Go.Proofs.YtajhkogknpmnbaaDoor
open Go.RowKit ObjM
namespace FlowD
open FlowM PopM

theorem ss_setV (m : Nat) (live : Nat → Bool) (Hf ys ys' : Nat → Nat) : (ssOf m live Hf ys).map setV = (ssOf m live Hf ys').map setV := by
  unfold ssOf
  rw [List.map_map, List.map_map]
  apply List.map_congr_left
  intro q _
  simp only [Function.comp]
  split <;> rfl
/-- Sets of places in a row of m: those of live places, each in a block of its own. -/
structure SetsAt (w : World) (B S m : Nat) (live : Nat → Bool) (Hf ys : Nat → Nat) : Prop where
  s : Has w S 54 ((ssOf m live Hf ys).map setV)
  e : ∀ q, q < m → live q = true → SetAt w (Hf q) (ys q) ∧ B ≤ Hf q
  d : ∀ q r, q < m → r < m → live q = true → live r = true → q ≠ r → Hf q ≠ Hf r
  b : B ≤ S
theorem SetsAt.cell {w : World} {B S m : Nat} {live : Nat → Bool} {Hf ys : Nat → Nat} (h : SetsAt w B S m live Hf ys) {q : Nat} (hq : q < m) : w.cell? ⟨S, q, none⟩ = some (if live q = true then .slice (some ⟨Hf q, 0, none⟩) 1 1 else .slice none 0 0) := by
  rw [h.s.cell, List.getElem?_map, ss_get hq]
  split <;> rfl
theorem SetsAt.keeps {K : List Nat} {w w' : World} {B S m : Nat} {live : Nat → Bool} {Hf ys : Nat → Nat} (h : SetsAt w B S m live Hf ys) (k : Keeps K w w') (hS : S ∉ K) (hH : ∀ q, q < m → live q = true → Hf q ∉ K) : SetsAt w' B S m live Hf ys :=
  ⟨h.s.keeps k hS, fun q hq hl => ⟨Has.keeps (h.e q hq hl).1 k (hH q hq hl), (h.e q hq hl).2⟩, h.d, h.b⟩
theorem ss_set {m : Nat} {live : Nat → Bool} {Hf ys : Nat → Nat} {n H x : Nat} (hn : n < m) : ((ssOf m live Hf ys).map setV).set n (.slice (some ⟨H, 0, none⟩) 1 1) = (ssOf m (fun q => live q || q == n) (updY Hf n H) (updY ys n x)).map setV := by
  apply List.ext_getElem?
  intro i
  rw [List.getElem?_set, List.getElem?_map, List.getElem?_map]
  by_cases hi : i < m
  · rw [ss_get hi, ss_get hi]
    by_cases e : n = i
    · subst e
      simp [ss_len, hn, updY, setV]
    · rw [if_neg e]
      have e2 : (i == n) = false := by simp; omega
      have e3 : ¬ i = n := fun h => e h.symm
      simp only [updY, e2, Bool.or_false, if_neg e3]
  · have h1 : (ssOf m live Hf ys)[i]? = none := List.getElem?_eq_none (by rw [ss_len]; omega)
    have h2 : (ssOf m (fun q => live q || q == n) (updY Hf n H) (updY ys n x))[i]? = none := List.getElem?_eq_none (by rw [ss_len]; omega)
    rw [h1, h2, if_neg (by omega)]
/-- One more set is put in. -/
theorem SetsAt.push {w w' : World} {B S m : Nat} {live : Nat → Bool} {Hf ys : Nat → Nat} (h : SetsAt w B S m live Hf ys) (hb : Below w.heap.size w w') (hB : B ≤ w.heap.size) {n H x : Nat} (hn : n < m) (hH : SetAt w' H x) (hf : w.heap.size ≤ H) :
    SetsAt (w'.setCell ⟨S, n, none⟩ (.slice (some ⟨H, 0, none⟩) 1 1)) B S m (fun q => live q || q == n) (updY Hf n H) (updY ys n x) := by
  have hS := h.s.below hb h.s.lt
  have k := Keeps.set w' S n (.slice (some ⟨H, 0, none⟩) 1 1)
  have key : ∀ {K y : Nat}, SetAt w' K y → SetAt (w'.setCell ⟨S, n, none⟩ (.slice (some ⟨H, 0, none⟩) 1 1)) K y := fun hK => Has.keeps hK k (by simpa using Has.ne hK hS (by decide))
  refine ⟨?_, ?_, ?_, h.b⟩
  · rw [← ss_set (x := x) hn]
    exact hS.set n _
  · intro q hq hl
    by_cases e : q = n
    · subst e
      simp only [updY, if_pos]
      exact ⟨key hH, by omega⟩
    · have hl2 : live q = true := by simpa [e] using hl
      simp only [updY, if_neg e]
      exact ⟨key (Has.below (h.e q hq hl2).1 hb (h.e q hq hl2).1.lt), (h.e q hq hl2).2⟩
  · intro q r hq hr hlq hlr hqr
    by_cases e : q = n
    · subst e
      have e2 : ¬ r = q := fun h => hqr h.symm
      have hl2 : live r = true := by simpa [e2] using hlr
      have := (h.e r hr hl2).1.lt
      simp only [updY, if_pos, if_neg e2]
      omega
    · have hl2 : live q = true := by simpa [e] using hlq
      by_cases e2 : r = n
      · subst e2
        have := (h.e q hq hl2).1.lt
        simp only [updY, if_pos, if_neg e]
        omega
      · have hl3 : live r = true := by simpa [e2] using hlr
        simp only [updY, if_neg e, if_neg e2]
        exact h.d q r hq hr hl2 hl3 hqr
/-- One set is written. -/
theorem SetsAt.write {w w' : World} {B S m : Nat} {live : Nat → Bool} {Hf ys : Nat → Nat} (h : SetsAt w B S m live Hf ys) {n x : Nat} (hn : n < m) (hl : live n = true) (k : Keeps [Hf n] w w') (hx : SetAt w' (Hf n) x) : SetsAt w' B S m live Hf (updY ys n x) := by
  refine ⟨?_, ?_, h.d, h.b⟩
  · rw [ss_setV m live Hf (updY ys n x) ys]
    exact h.s.keeps k (by simpa using h.s.ne (h.e n hn hl).1 (by decide))
  · intro q hq hlq
    by_cases e : q = n
    · subst e
      simp only [updY, if_pos]
      exact ⟨hx, (h.e q hq hlq).2⟩
    · simp only [updY, if_neg e]
      exact ⟨Has.keeps (h.e q hq hlq).1 k (by simpa using h.d q n hq hn hlq hl e), (h.e q hq hlq).2⟩
/-- The state of the rounds: the sets, and the one that is made anew. -/
structure SetL (w wr : World) (S G m : Nat) (live : Nat → Bool) (Hf ys : Nat → Nat) (x : Nat) : Prop where
  a : SetsAt wr w.heap.size S m live Hf ys
  g : SetAt wr G x
  gb : w.heap.size ≤ G
  gd : ∀ q, q < m → live q = true → Hf q ≠ G
  b : Below w.heap.size w wr
theorem SetL.now {w wr w' : World} {S G m : Nat} {live : Nat → Bool} {Hf ys : Nat → Nat} {x x' : Nat} (h : SetL w wr S G m live Hf ys x) (k : Keeps [G] wr w') (hg : SetAt w' G x') : SetL w w' S G m live Hf ys x' :=
  ⟨h.a.keeps k (by simpa using h.a.s.ne h.g (by decide)) (fun q hq hl => by simpa using h.gd q hq hl), hg, h.gb, h.gd, h.b.trans (k.toBelow _ h.b.size (fun y hy => by simp at hy; rw [hy]; exact h.gb))⟩
theorem SetL.keeps {w wr w' : World} {S G m : Nat} {live : Nat → Bool} {Hf ys : Nat → Nat} {x : Nat} (h : SetL w wr S G m live Hf ys x) (k : Keeps [] wr w') : SetL w w' S G m live Hf ys x :=
  ⟨h.a.keeps k (by simp) (fun q hq hl => by simp), Has.keeps h.g k (by simp), h.gb, h.gd, h.b.trans (k.toBelow _ h.b.size (by simp))⟩
theorem SetL.meetIn {w wr : World} {S G m : Nat} {live : Nat → Bool} {Hf ys : Nat → Nat} {x : Nat} (h : SetL w wr S G m live Hf ys x) {F : Nat} {zs : List Int} (hF : RowAt wr F zs) (hr : ∀ z ∈ zs, z = -1 ∨ 0 ≤ z ∧ z < m) (hy : ∀ n, live n = true → ys n < LabelM.M64) : MeetIn wr G F S zs (ssOf m live Hf ys) := by
  obtain ⟨fcs, hf, hfi⟩ := hF
  refine ⟨fun i hi => (hf.cell i).trans (hfi i hi), ?_, ⟨hf.ne h.g (by decide), hf.lt⟩, ⟨h.a.s.ne h.g (by decide), h.a.s.lt⟩, ?_, ?_⟩
  · intro q hq
    rw [h.a.s.cell, List.getElem?_map, List.getElem?_eq_getElem hq]
    rfl
  · intro q H y hq
    have hqm : q < m := by
      have := (List.getElem?_eq_some_iff.1 hq).1
      rwa [ss_len] at this
    rw [ss_get hqm] at hq
    cases e : live q with
    | false => rw [e] at hq; simp at hq
    | true =>
      rw [e] at hq
      simp at hq
      obtain ⟨rfl, rfl⟩ := hq
      exact ⟨(h.a.e q hqm e).1, h.gd q hqm e, hy q e⟩
  · intro z hz
    rw [ss_len]
    exact hr z hz
/-- What stands behind the writing of a set. -/
theorem SetL.put {w wr : World} {S G m : Nat} {live : Nat → Bool} {Hf ys : Nat → Nat} {x n : Nat} (h : SetL w wr S G m live Hf ys x) (hn : n < m) (hl : live n = true) : SetL w (wr.setRow (Hf n) #[.int .u64 (x : Int)]) S G m live Hf (updY ys n x) x := by
  have hH := (h.a.e n hn hl).1
  have h1 : SetAt (wr.setRow (Hf n) #[.int .u64 (x : Int)]) (Hf n) x := setRow_heap wr (Hf n) _ #[.int .u64 (x : Int)] 84 (0, 0) hH
  have k : Keeps [Hf n] wr (wr.setRow (Hf n) #[.int .u64 (x : Int)]) := ⟨rfl, rfl, rfl, by simp [World.setRow], fun k _ hk => setRow_other wr (Hf n) k _ (by simpa using hk)⟩
  exact ⟨h.a.write hn hl k h1, Has.keeps h.g k (by simpa using (h.gd n hn hl).symm), h.gb, h.gd, h.b.trans (k.toBelow _ h.b.size (fun y hy => by simp at hy; rw [hy]; exact (h.a.e n hn hl).2))⟩
end FlowD
end Go.Proofs.YtajhkogknpmnbaaDoor
namespace Go.Proofs.YtajhkogknpmnbaaDoor
open Go.RowKit ObjM
namespace FlowD
open FlowM PopM

def liveOf (l : List Int) (j : Nat) : Nat → Bool := fun q => decide ((q : Int) ∈ l.take j)
theorem live_succ {l : List Int} {j n : Nat} (hj : j < l.length) (hn : l[j] = (n : Int)) : liveOf l (j + 1) = fun q => liveOf l j q || q == n := by
  funext q
  unfold liveOf
  rw [List.take_succ_eq_append_getElem hj, hn, Bool.eq_iff_iff, decide_eq_true_eq, List.mem_append, List.mem_singleton, Bool.or_eq_true, decide_eq_true_eq, beq_iff_eq]
  exact or_congr Iff.rfl ⟨fun h => by omega, fun h => by omega⟩
theorem full_upd (n : Nat) : updY (fun _ => 18446744073709551615) n 18446744073709551615 = fun _ => 18446744073709551615 := by
  funext k
  unfold updY
  split <;> rfl
theorem infoSets : (Tryd.prog.info? 54).map (fun i => (i.zero, i.size, i.bytes)) = some (some (.slice none 0 0), 1, 24) := by kernel_rfl
theorem info_sets : ∃ i, Tryd.prog.info? 54 = some i ∧ i.zero = some (.slice none 0 0) ∧ i.size = 1 ∧ i.bytes = 24 := by
  have h := infoSets
  rcases e : Tryd.prog.info? 54 with _ | i
  · rw [e] at h
    cases h
  · rw [e] at h
    simp at h
    exact ⟨i, rfl, h.1, h.2.1, h.2.2⟩
theorem sets_start {w w1 : World} {m : Nat} {l : List Int} (hh : Has w1 w.heap.size 54 (List.replicate m (.slice none 0 0))) : SetsAt w1 w.heap.size w.heap.size m (liveOf l 0) (fun _ => 0) (fun _ => 18446744073709551615) := by
  have h0 : ∀ q, liveOf l 0 q = false := fun q => by simp [liveOf]
  refine ⟨?_, fun q hq hl => ?_, fun q r hq hr hl _ _ => ?_, Nat.le_refl _⟩
  · have e : (ssOf m (liveOf l 0) (fun _ => 0) (fun _ => 18446744073709551615)).map setV = List.replicate m (.slice none 0 0) := by
      unfold ssOf
      rw [List.map_map]
      apply List.ext_getElem?
      intro i
      rw [List.getElem?_map, List.getElem?_replicate]
      by_cases hi : i < m
      · rw [List.getElem?_range hi, if_pos hi]
        simp [h0, setV]
      · rw [List.getElem?_eq_none (by simp; omega), if_neg hi]
        rfl
    rw [e]
    exact hh
  · rw [h0] at hl; cases hl
  · rw [h0] at hl; cases hl
/-- What the rounds come to. -/
def Settled (w : World) (next : Nat → List Int) (m : Nat) (live : Nat → Bool) (e : Ending) (w' : World) : Prop :=
  ∃ S Hf ys, e = .returned (.slice (some ⟨S, 0, none⟩) m m) ∧ SetsAt w' w.heap.size S m live Hf ys ∧ (∀ n p, live n = true → ((ys n).testBit p = true ↔ Cut (nxO next) n p)) ∧ (∀ n, live n = true → ys n < LabelM.M64) ∧ Below w.heap.size w w'
theorem SetL.start {w wr w2 : World} {S m : Nat} {live : Nat → Bool} {Hf ys : Nat → Nat} (h : SetsAt wr w.heap.size S m live Hf ys) (hb : Below w.heap.size w wr) (hg : SetAt w2 wr.heap.size 0) (hb2 : Below wr.heap.size wr w2) : SetL w w2 S wr.heap.size m live Hf ys 0 := by
  refine ⟨?_, hg, hb.size, ?_, hb.trans (hb2.mono hb.size)⟩
  · exact h.keeps (Keeps.below' hb2 []) (by simp) (fun q hq hl => by simp)
  · intro q hq hl
    have := (h.e q hq hl).1.lt
    omega
/-- The rounds: where they stand. -/
structure Rnd (w wr : World) (S G m : Nat) (next : Nat → List Int) (live : Nat → Bool) (Hf : Nat → Nat) (o : List Nat) (at' st : Nat) : Prop where
  h : ∃ ys x, SetL w wr S G m live Hf ys x ∧ SetP next live ys ∧ Stay next m live Hf ys o at' st ∧ at' + holds (bitT ys) o * (o.length + 1) + (o.length - st) ≤ 1000000
theorem holds_le (T : Nat → Nat → Bool) : ∀ (o : List Nat), holds T o ≤ 64 * o.length
  | [] => by simp [holds]
  | n :: r => by
    have h1 := holds_le T r
    have h2 := List.countP_le_length (p := T n) (l := List.range 64)
    simp only [holds, List.map_cons, List.sum_cons, List.length_cons, List.length_range] at h1 h2 ⊢
    omega
theorem Rnd.start {w wr : World} {S G m : Nat} {next : Nat → List Int} {live : Nat → Bool} {Hf : Nat → Nat} {o : List Nat} (hP : LiveP next m live) (ho : o.length ≤ 64) (h : SetL w wr S G m live Hf (fun _ => 18446744073709551615) 0) : Rnd w wr S G m next live Hf o 0 0 := by
  refine ⟨_, _, h, setP_start hP, stay_none, ?_⟩
  have h1 := holds_le (bitT fun _ => 18446744073709551615) o
  have h2 : holds (bitT fun _ => 18446744073709551615) o * (o.length + 1) ≤ 4096 * 65 := Nat.mul_le_mul (by omega) (by omega)
  omega
/-- A round that changes nothing. -/
theorem Rnd.same {w wr : World} {S G m : Nat} {next : Nat → List Int} {live : Nat → Bool} {Hf ys : Nat → Nat} {o : List Nat} {at' st n x : Nat} (hst : st < o.length) (hn : o[at' % o.length]? = some n) (h : SetL w wr S G m live Hf ys x) (hs : SetP next live ys) (hy : Stay next m live Hf ys o at' st)
    (hc : at' + holds (bitT ys) o * (o.length + 1) + (o.length - st) ≤ 1000000) (he : newY m live Hf ys next n = ys n) : Rnd w wr S G m next live Hf o (at' + 1) (st + 1) :=
  ⟨ys, x, h, hs, hy.more hn he, by omega⟩
/-- A round that makes a set less. -/
theorem Rnd.less {w wr : World} {S G m : Nat} {next : Nat → List Int} {live : Nat → Bool} {Hf ys : Nat → Nat} {o : List Nat} {at' st n : Nat} (hP : LiveP next m live) (ho : ∀ k ∈ o, live k = true) (hn : n ∈ o) (h : SetL w wr S G m live Hf ys (newY m live Hf ys next n)) (hs : SetP next live ys)
    (hc : at' + holds (bitT ys) o * (o.length + 1) + (o.length - st) ≤ 1000000) (he : newY m live Hf ys next n ≠ ys n) : Rnd w (wr.setRow (Hf n) #[.int .u64 (newY m live Hf ys next n : Int)]) S G m next live Hf o (at' + 1) 0 := by
  have hl := ho n hn
  refine ⟨_, _, h.put (hP.lm n hl) hl, hs.step hP hl, stay_none, ?_⟩
  have h1 := hs.shrinks (Hf := Hf) hP hn ho he
  have h2 : (holds (bitT (updY ys n (newY m live Hf ys next n))) o + 1) * (o.length + 1) ≤ holds (bitT ys) o * (o.length + 1) := Nat.mul_le_mul_right _ h1
  rw [Nat.add_mul] at h2
  omega
theorem Rnd.done {w wr : World} {S G m : Nat} {next : Nat → List Int} {live : Nat → Bool} {Hf : Nat → Nat} {o : List Nat} {at' : Nat} (hP : LiveP next m live) (ho : ∀ k, live k = true → k ∈ o) (hat : o.length ≤ at') (h : Rnd w wr S G m next live Hf o at' o.length) : Settled w next m live (.returned (.slice (some ⟨S, 0, none⟩) m m)) wr := by
  obtain ⟨ys, x, h1, h2, h3, _⟩ := h.h
  have ha := h3.all hat
  exact ⟨S, Hf, ys, rfl, h1.a, fun n p hn => h2.done hP (fun n hn => ha n (ho n hn)) hn, h2.lt, h1.b⟩
end FlowD
end Go.Proofs.YtajhkogknpmnbaaDoor
