/- The document's stamps: what they let in. -/
import Derived.Test.YtpmbbkhhnkhcbaaTab25
import Derived.Test.YtpmbbkhhnkhcbaaTab16
namespace Go.Proofs.Ytpmbbkhhnkhcbaa
open Go.RowKit ObjM Go.Maps
namespace TabD
open LabelM LabelD ValD

theorem and_one (n : Int) : bits .and .i64 n 1 = n % 2 := by
  have h1 : (BitVec.ofInt 64 1).toNat = 2 ^ 1 - 1 := by decide
  have key : (BitVec.ofInt 64 n &&& BitVec.ofInt 64 1).toNat = (n % ((2 ^ 64 : Nat) : Int)).toNat % 2 ^ 1 := by
    rw [BitVec.toNat_and, BitVec.toNat_ofInt, h1, Nat.and_two_pow_sub_one_eq_mod]
  show IntKind.i64.wrap ((BitVec.ofInt 64 n &&& BitVec.ofInt 64 1).toNat : Nat) = n % 2
  rw [key, IntKind.wrap_i64]
  omega
theorem and_one_zero (n : Int) : (bits BinOp.and IntKind.i64 n 1 == 0) = !(bits BinOp.and IntKind.i64 n 1 == 1) := by
  rw [and_one]
  rcases Int.emod_two_eq n with h | h <;> rw [h] <;> rfl
def allowsB (ss : List St) (k : List UInt8) (kd : Int) : Bool := ss.all fun x => !(key8 x.1 == k) || mayB x.2 kd
theorem allows_stop {ss : List St} {k : List UInt8} {kd : Int} {i : Nat} {s : St} (hi : ss[i]? = some s) (h1 : key8 s.1 = k) (h2 : mayB s.2 kd = false) : allowsB ss k kd = false := by
  unfold allowsB
  rw [List.all_eq_false]
  exact ⟨s, List.mem_of_getElem? hi, by simp [h1, h2]⟩
theorem allows_all {ss : List St} {k : List UInt8} {kd : Int} (h : ∀ (i : Nat) (s : St), i < ss.length → ss[i]? = some s → key8 s.1 = k → mayB s.2 kd = true) : allowsB ss k kd = true := by
  unfold allowsB
  rw [List.all_eq_true]
  intro x hx
  obtain ⟨i, hi⟩ := List.getElem?_of_mem hx
  by_cases hk : key8 x.1 = k
  · simp [h i x (List.getElem?_eq_some_iff.1 hi).1 hi hk]
  · simp [hk]
theorem may_no {ks kd : Int} (h : (kd < 0 ∨ 62 < kd) ∨ (bits BinOp.and IntKind.i64 (ks / 2 ^ kd.toNat) 1 == 0) = true) : mayB ks kd = false := by
  unfold mayB
  rcases h with (h | h) | h
  · have : ¬ 0 ≤ kd := by omega
    simp [this]
  · have : ¬ kd ≤ 62 := by omega
    simp [this]
  · rw [and_one_zero] at h
    simp only [Bool.not_eq_true'] at h
    rw [h]
    simp
theorem may_yes {ks kd : Int} (h : (0 ≤ kd ∧ kd ≤ 62) ∧ (bits BinOp.and IntKind.i64 (ks / 2 ^ kd.toNat) 1 == 0) = false) : mayB ks kd = true := by
  unfold mayB
  obtain ⟨⟨h1, h2⟩, h3⟩ := h
  rw [and_one_zero] at h3
  simp only [Bool.not_eq_false'] at h3
  rw [h3]
  simp [h1, h2]
theorem key8_of {a b : ByteArray} (h : a.toList = b.toList) : key8 a = key8 b := by rw [Lib.toList_data, Lib.toList_data] at h; exact h
theorem key8_ne {a b : ByteArray} (h : ¬ a.toList = b.toList) : ¬ key8 a = key8 b := by rw [Lib.toList_data, Lib.toList_data] at h; exact h
def AllowIs (w : World) (b : Bool) (e : Ending) (w' : World) : Prop := e = .returned (.bool b) ∧ Below w.heap.size w w'
theorem str_eq {a b : ByteArray} (h : key8 a = key8 b) : a = b := by
  unfold key8 at h
  cases a with | mk x => cases b with | mk y =>
  have : x = y := Array.ext' h
  rw [this]
set_option maxRecDepth 100000 in
set_option maxHeartbeats 2000000 in
theorem allows_any (B : Nat) (sv : Value) (ss : List St) (nm : ByteArray) (kd : Int) (w : World) (h : w.ownsRow B 44 2 sv ss.length (rowS ss)) (hn : ss.length ≤ 1000000) :
    Calls Try.prog 45 #[sv, .string nm, .int .i64 kd] w (AllowIs w (allowsB ss (key8 nm) kd)) := by
  obtain ⟨av, cap, rfl⟩ := own_slice h
  have HO := Lib.hid h
  clear h
  have HStop : Hid (∀ (i : Nat) (s : St), ss[i]? = some s → key8 s.1 = key8 nm → mayB s.2 kd = false → allowsB ss (key8 nm) kd = false) := Lib.hid fun i s h1 h2 h3 => allows_stop h1 h2 h3
  have HAll : Hid ((∀ (i : Nat) (s : St), i < ss.length → ss[i]? = some s → key8 s.1 = key8 nm → mayB s.2 kd = true) → allowsB ss (key8 nm) kd = true) := Lib.hid fun h => allows_all h
  obtain ⟨r, hr⟩ : ∃ r, allowsB ss (key8 nm) kd = r := ⟨_, rfl⟩
  rw [hr] at HStop HAll ⊢
  clear hr
  go_enter Try.func45, Try.ntmps45
  go_wp2
  go_loopw [11] (fun i wr => ∃ k : Nat, i = .int .i64 k ∧ k ≤ ss.length ∧ Hid (∀ (j : Nat) (s : St), j < k → ss[j]? = some s → key8 s.1 = key8 nm → mayB s.2 kd = true) ∧ Hid (Below w.heap.size w wr)) (fun i _ => ss.length - (intOf i).toNat)
  case atStart => exact ⟨0, rfl, Nat.zero_le _, Lib.hid (fun j s hj => by omega), Lib.hid (Below.refl _ _)⟩
  case round =>
    obtain ⟨k, rfl, hk, HF, HB⟩ := hrel
    by_cases hlt : k < ss.length
    · obtain ⟨s, hsk⟩ : ∃ s, ss[k]? = some s := ⟨_, List.getElem?_eq_getElem hlt⟩
      obtain ⟨g, rfl, hgl, g0, g1⟩ : ∃ g, av = some ⟨g, 0, none⟩ ∧ g < wr.heap.size ∧ wr.cell? ⟨g, k * 2, none⟩ = some (.string s.1) ∧ wr.cell? ⟨g, k * 2 + 1, none⟩ = some (.int .i64 s.2) := by
        have hO := own_keeps HO.out (Keeps.below' HB.out []) (by simp)
        rcases own_shape hO with ⟨_, h9, _⟩ | ⟨g, cap, cs, hsv, _, hh, _⟩
        · omega
        · have hav : av = some ⟨g, 0, none⟩ := by injection hsv
          rw [hsv] at hO
          obtain ⟨q0, q1⟩ := rowS_at ss k s hsk
          obtain ⟨hj0, hv0⟩ := List.getElem?_eq_some_iff.1 q0
          obtain ⟨hj1, hv1⟩ := List.getElem?_eq_some_iff.1 q1
          exact ⟨g, hav, hh.lt, by rw [own_cell hO _ hj0, hv0], by rw [own_cell hO _ hj1, hv1]⟩
      have HSK := Lib.hid hsk
      clear hsk
      have hb0 := Has.new wr 44 [.string s.1, .int .i64 s.2]
      have b0 := hb0.cell 0
      have b1 := hb0.cell 1
      have hlb := hb0.lt
      simp only [List.getElem?_cons_zero, List.getElem?_cons_succ] at b0 b1
      have HB2 : Hid (Below w.heap.size w (wr.alloc (.cells #[.string s.1, .int .i64 s.2] 44))) := Lib.hid (HB.out.alloc HB.out.size _)
      clear hb0
      go_wp2
      all_goals first
        | (have hm : mayB s.2 kd = false := by
             first
               | exact may_no (by assumption)
               | exact may_no (.inl (.inr (by assumption)))
               | exact may_no (.inl (.inl (by assumption)))
           have hr := HStop.out k s HSK.out (key8_of (by assumption)) hm
           subst hr
           go_ret
           exact ⟨rfl, HB2.out⟩)
        | (have hm : key8 s.1 = key8 nm → mayB s.2 kd = true := by
             first
               | exact fun _ => may_yes (by assumption)
               | exact fun h9 => absurd h9 (key8_ne (by assumption))
           have HF2 : Hid (∀ (j : Nat) (s : St), j < k + 1 → ss[j]? = some s → key8 s.1 = key8 nm → mayB s.2 kd = true) := Lib.hid fun j x hj hx hkx => by
             by_cases hjk : j < k
             · exact HF.out j x hjk hx hkx
             · have : j = k := by omega
               subst this
               have hxs : x = s := Option.some.inj (hx.symm.trans HSK.out)
               subst hxs
               exact hm hkx
           clear hm
           go_roundw
           case rel => exact ⟨k + 1, by go_num, by omega, HF2, HB2⟩
           case measure => simp [intOf]; omega)
    · have : k = ss.length := by omega
      subst this
      have hr := HAll.out HF.out
      subst hr
      go_wp2
      go_ret
      exact ⟨rfl, HB.out⟩
end TabD
end Go.Proofs.Ytpmbbkhhnkhcbaa
