/- What both tables come to is the same; plain. -/
import Derived.Test.YtpmbbkhhnkhcbaaTab32
namespace Go.Proofs.Ytpmbbkhhnkhcbaa
open Go.RowKit ObjM Go.Maps
namespace TabD
open LabelM LabelD ValD

theorem andI_def (a b : Int) : andI a b = IntKind.i64.wrap ((BitVec.ofInt 64 a &&& BitVec.ofInt 64 b).toNat : Nat) := rfl
theorem andI_self {a : Int} (h : -9223372036854775808 ≤ a ∧ a ≤ 9223372036854775807) : andI a a = a := by
  rw [andI_def, BitVec.and_self, BitVec.toNat_ofInt, IntKind.wrap_i64]
  omega
theorem ofInt_andI (a b : Int) : BitVec.ofInt 64 (andI a b) = BitVec.ofInt 64 a &&& BitVec.ofInt 64 b := by
  apply BitVec.eq_of_toNat_eq
  rw [andI_def, BitVec.toNat_ofInt, IntKind.wrap_i64]
  have := (BitVec.ofInt 64 a &&& BitVec.ofInt 64 b).isLt
  omega
theorem bit_of (x : Int) (n : Nat) (hn : n < 64) : ((x / 2 ^ n) % 2 = 1) ↔ (BitVec.ofInt 64 x).getLsbD n = true := by
  rw [BitVec.getLsbD, BitVec.toNat_ofInt, Nat.testBit_eq_decide_div_mod_eq, decide_eq_true_eq]
  obtain ⟨m, hm⟩ : ∃ m, 64 = n + 1 + m := ⟨63 - n, by omega⟩
  have h64 : ((2 ^ 64 : Nat) : Int) = 2 ^ n * (2 * 2 ^ m) := by
    have : (2 : Nat) ^ 64 = 2 ^ n * (2 * 2 ^ m) := by
      rw [hm, Nat.pow_add, Nat.pow_add, Nat.pow_one, Nat.mul_assoc]
    rw [this]
    push_cast
    rfl
  obtain ⟨p, hp⟩ : ∃ p : Int, (2 : Int) ^ m = p := ⟨_, rfl⟩
  have hr0 : 0 ≤ x % ((2 ^ 64 : Nat) : Int) := Int.emod_nonneg _ (by decide)
  obtain ⟨r, hr⟩ : ∃ r : Nat, x % ((2 ^ 64 : Nat) : Int) = r := ⟨(x % ((2 ^ 64 : Nat) : Int)).toNat, by omega⟩
  have hx : x = ((2 ^ 64 : Nat) : Int) * (x / ((2 ^ 64 : Nat) : Int)) + r := by rw [← hr]; exact (Int.mul_ediv_add_emod x _).symm
  rw [hr]
  obtain ⟨q, hq⟩ : ∃ q, x / ((2 ^ 64 : Nat) : Int) = q := ⟨_, rfl⟩
  rw [hq, h64, hp] at hx
  have hpos : (2 : Int) ^ n ≠ 0 := by
    have : (0 : Int) < 2 ^ n := Int.pow_pos (by decide)
    omega
  have h1 : x / 2 ^ n = (r : Int) / 2 ^ n + 2 * (p * q) := by
    rw [hx, Int.mul_assoc, Int.add_comm, Int.add_mul_ediv_left _ _ hpos]
    congr 1
    rw [Int.mul_assoc]
  have h2 : (r : Int) / 2 ^ n = ((r / 2 ^ n : Nat) : Int) := by push_cast; rfl
  rw [h1, h2, Int.toNat_natCast]
  generalize p * q = z
  generalize r / 2 ^ n = t
  omega
theorem mayB_and (a b kd : Int) : mayB (andI a b) kd = (mayB a kd && mayB b kd) := by
  unfold mayB
  rw [and_one, and_one, and_one]
  by_cases h0 : 0 ≤ kd
  · by_cases h1 : kd ≤ 62
    · simp only [h0, h1, decide_true, Bool.true_and]
      have hn : kd.toNat < 64 := by omega
      have e : ∀ x : Int, (x / 2 ^ kd.toNat % 2 == 1) = (BitVec.ofInt 64 x).getLsbD kd.toNat := fun x => by
        rw [Bool.eq_iff_iff, beq_iff_eq]
        exact bit_of x _ hn
      rw [e, e, e, ofInt_andI, BitVec.getLsbD_and]
    · simp [h1]
  · simp [h0]
def ND (ss : List St) : Prop := (ss.map fun s => key8 s.1).Nodup
theorem allows_fit {ss : List St} (h : ND ss) (k : List UInt8) (kd : Int) : allowsB ss k kd = fitB ss k kd := by
  induction ss with
  | nil => rfl
  | cons a r ih =>
    unfold ND at h ih
    rw [List.map_cons, List.nodup_cons] at h
    have ih := ih h.2
    unfold allowsB fitB at ih ⊢
    rw [List.all_cons, List.find?_cons]
    by_cases hk : key8 a.1 = k
    · have hr : r.all (fun x => !(key8 x.1 == k) || mayB x.2 kd) = true := by
        rw [List.all_eq_true]
        intro x hx
        have : ¬ key8 x.1 = k := fun h9 => h.1 (List.mem_map.2 ⟨x, hx, by rw [h9, hk]⟩)
        simp [this]
      rw [hr]
      simp [hk]
    · rw [show (key8 a.1 == k) = false by simpa using hk]
      simpa using ih
theorem withF_names {ss : List St} {s : St} : (withF ss s).map (fun x => key8 x.1) = if nameAt ss (key8 s.1) = none then ss.map (fun x => key8 x.1) ++ [key8 s.1] else ss.map (fun x => key8 x.1) := by
  unfold withF
  cases hn : nameAt ss (key8 s.1) with
  | none => simp
  | some n =>
    obtain ⟨e, he, -⟩ := nameAt_some hn
    show (ss.modify n (fun e => (e.1, andI e.2 s.2))).map (fun x => key8 x.1) = _
    rw [modify_set ss n e he]
    have := congrArg (List.map key8) (names_set ss n e he (andI e.2 s.2))
    rw [List.map_map, List.map_map] at this
    exact this
theorem nameAt_mem {ss : List St} {k : List UInt8} : nameAt ss k = none ↔ k ∉ ss.map fun x => key8 x.1 := by
  unfold nameAt
  rw [List.findIdx?_eq_none_iff]
  constructor
  · intro h hm
    obtain ⟨x, hx, hk⟩ := List.mem_map.1 hm
    have := h x hx
    simp [hk] at this
  · intro h x hx
    simp
    exact fun hk => h (List.mem_map.2 ⟨x, hx, hk⟩)
theorem ND_with {ss : List St} (h : ND ss) (s : St) : ND (withF ss s) := by
  unfold ND at h ⊢
  rw [withF_names]
  split
  · rename_i hn
    rw [List.nodup_append]
    refine ⟨h, by simp, fun a ha b hb => ?_⟩
    have : b = key8 s.1 := by simpa using hb
    subst this
    rintro rfl
    exact nameAt_mem.1 hn ha
  · exact h
theorem ND_nxt {ss : List St} (h : ND ss) (l : List St) : ND (nxt ss l) := by
  unfold nxt
  induction l generalizing ss with
  | nil => exact h
  | cons a r ih => exact ih (ND_with h a)
theorem narrow_with {ss : List St} {s : St} (hs : StOk s) : narrow ss s = withF ss s := by
  unfold narrow withF
  rw [andI_self hs.2]
  cases nameAt ss (key8 s.1) <;> rfl
theorem fit_with_other {ss : List St} {s : St} {k : List UInt8} {kd : Int} (hk : ¬ key8 s.1 = k) : fitB (withF ss s) k kd = fitB ss k kd := by
  unfold withF
  cases hn : nameAt ss (key8 s.1) with
  | none =>
    unfold fitB
    rw [List.find?_append]
    cases hf : ss.find? (fun x => key8 x.1 == k) with
    | some x => rfl
    | none => simp [hk]
  | some n =>
    obtain ⟨e, he, hek⟩ := nameAt_some hn
    show fitB (ss.modify n _) k kd = _
    rw [modify_set ss n e he]
    unfold fitB
    rw [find_of_nameAt, find_of_nameAt, nameAt_set ss n e he]
    cases hm : nameAt ss k with
    | none => rfl
    | some m =>
      obtain ⟨g, hg, hgk⟩ := nameAt_some hm
      have hne : ¬ n = m := by
        rintro rfl
        rw [he] at hg
        cases hg
        exact hk (hek.symm.trans hgk)
      simp [hne]
theorem fit_with_same {ss : List St} {s : St} {kd : Int} (hs : fitB (withF ss s) (key8 s.1) kd = true) : fitB ss (key8 s.1) kd = true := by
  cases hn : nameAt ss (key8 s.1) with
  | none => exact fitB_none hn
  | some n =>
    obtain ⟨e, he, -⟩ := nameAt_some hn
    have hw : withF ss s = ss.set n (e.1, andI e.2 s.2) := by
      unfold withF
      rw [hn]
      exact modify_set ss n e he _
    rw [hw, fitB_set hn he, mayB_and] at hs
    rw [fitB_some hn he]
    simp at hs
    exact hs.1
theorem fit_nxt {ss l : List St} {k : List UInt8} {kd : Int} (h : fitB (nxt ss l) k kd = true) : fitB ss k kd = true := by
  unfold nxt at h
  induction l generalizing ss with
  | nil => exact h
  | cons a r ih =>
    have h1 := ih h
    by_cases hk : key8 a.1 = k
    · subst hk
      exact fit_with_same h1
    · rwa [fit_with_other hk] at h1
theorem fit_nxt_other {ss l : List St} {k : List UInt8} {kd : Int} (h : ∀ s ∈ l, ¬ key8 s.1 = k) : fitB (nxt ss l) k kd = fitB ss k kd := by
  unfold nxt
  induction l generalizing ss with
  | nil => rfl
  | cons a r ih =>
    rw [List.foldl_cons, ih fun s hs => h s (by simp [hs]), fit_with_other (h a (by simp))]
/-- One by one, or all at once. -/
theorem run_all {fs : List Fd} {ss l : List St} (hnd : ND ss) (hl : ∀ s ∈ l, StOk s) : stampsRun fs ss l = rstampF fs ss l := by
  unfold stampsRun rstampF
  induction l generalizing ss with
  | nil => rfl
  | cons s r ih =>
    have hs := hl s (by simp)
    have ih := ih (ND_with hnd s) fun x hx => hl x (by simp [hx])
    have hnx : nxt ss (s :: r) = nxt (withF ss s) r := rfl
    rw [hnx, List.foldlM_cons, List.all_cons]
    have hndn : ND (nxt (withF ss s) r) := ND_nxt (ND_with hnd s) r
    unfold stepS
    rw [narrow_with hs]
    cases hkd : kindAt fs (strKey s.1) with
    | none =>
      have : okS fs (nxt (withF ss s) r) s = false := by simp [okS, hkd]
      rw [this]
      rfl
    | some kd =>
      have hok : okS fs (nxt (withF ss s) r) s = fitB (nxt (withF ss s) r) (key8 s.1) kd := by
        simp only [okS, hkd]
        exact allows_fit hndn _ _
      rw [hok]
      cases hf : fitB (withF ss s) (key8 s.1) kd with
      | false =>
        have : fitB (nxt (withF ss s) r) (key8 s.1) kd = false := by
          cases h9 : fitB (nxt (withF ss s) r) (key8 s.1) kd
          · rfl
          · rw [fit_nxt h9] at hf
            cases hf
        rw [this]
        simp [hf]
      | true =>
        simp only [Option.bind_some, hf, if_true]
        show r.foldlM (stepS fs) (withF ss s) = _
        rw [ih]
        cases hall : r.all (okS fs (nxt (withF ss s) r)) with
        | false => simp
        | true =>
          have : fitB (nxt (withF ss s) r) (key8 s.1) kd = true := by
            by_cases hex : ∃ x ∈ r, key8 x.1 = key8 s.1
            · obtain ⟨x, hx, hxk⟩ := hex
              have h1 := List.all_eq_true.1 hall x hx
              have h2 : x.1 = s.1 := str_eq hxk
              simp only [okS, h2, hkd] at h1
              rw [allows_fit hndn] at h1
              exact h1
            · rw [fit_nxt_other fun x hx hk => hex ⟨x, hx, hk⟩]
              exact hf
          rw [this]
          simp
theorem put_both {lab : Nat} {fs : List Fd} {ss : List St} (hnd : ND ss) (c : Nat) (key v : V) : putR lab fs ss c key v = putF lab fs ss c key v := by
  unfold putR putF putR2
  rw [allows_fit hnd]
  cases placeOf fs key with
  | none => rfl
  | some i =>
    cases hq : fs[i]? with
    | none => simp [hq]
    | some f => simp [hq]
end TabD
end Go.Proofs.Ytpmbbkhhnkhcbaa
