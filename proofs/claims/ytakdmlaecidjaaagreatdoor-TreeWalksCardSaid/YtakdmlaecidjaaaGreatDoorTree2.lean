/- What is there from the beginning; few nodes. -/
import Derived.Test.YtakdmlaecidjaaaGreatDoorTree1
import Derived.WalkKit
import Derived.LoopTactic
import Derived.RegionTactic
import Derived.BigQuiet
import Derived.Lib.Strings
namespace Go.Proofs.YtakdmlaecidjaaaGreatDoor
open Go.RowKit ObjM
namespace TreeD

def B1 : List ByteArray := [⟨#[114, 101, 97, 100]⟩, ⟨#[112, 99, 97, 108, 108]⟩, ⟨#[101, 114, 114, 111, 114]⟩, ⟨#[116, 121, 112, 101]⟩, ⟨#[99, 114, 101, 97, 116, 101]⟩, ⟨#[121, 105, 101, 108, 100]⟩, ⟨#[115, 116, 97, 116, 117, 115]⟩]
def B2 : List ByteArray := [⟨#[119, 114, 105, 116, 101]⟩, ⟨#[107, 101, 121]⟩, ⟨#[114, 101, 115, 117, 109, 101]⟩]
def memB (l : List ByteArray) (s : ByteArray) : Bool := l.any fun x => x.data.toList == s.data.toList
theorem memB_iff (l : List ByteArray) (s : ByteArray) : memB l s = true ↔ s ∈ l := by
  unfold memB
  rw [List.any_eq_true]
  constructor
  · rintro ⟨x, hx, e⟩
    have e2 : x.data.toList = s.data.toList := by simpa using e
    have : x = s := by
      cases x; cases s
      congr 1
      exact Array.ext' e2
    exact this ▸ hx
  · intro h
    exact ⟨s, h, by simp⟩
def builtinV (s : ByteArray) : Int := if memB B1 s = true then 1 else if memB B2 s = true then 2 else -1
theorem bv_one {s : ByteArray} (h : s ∈ B1) : builtinV s = 1 := by unfold builtinV; rw [if_pos ((memB_iff _ _).2 h)]
theorem bv_two {s : ByteArray} (h : ¬ s ∈ B1) (h2 : s ∈ B2) : builtinV s = 2 := by unfold builtinV; rw [if_neg (fun e => h ((memB_iff _ _).1 e)), if_pos ((memB_iff _ _).2 h2)]
theorem bv_no {s : ByteArray} (h : ¬ s ∈ B1) (h2 : ¬ s ∈ B2) : builtinV s = -1 := by unfold builtinV; rw [if_neg (fun e => h ((memB_iff _ _).1 e)), if_neg (fun e => h2 ((memB_iff _ _).1 e))]
theorem ne_list {s : ByteArray} {l : List UInt8} (h : ¬ s = ⟨l.toArray⟩) : (s.toList == l) = false := by
  rw [ByteArray.toList_eq]
  simp only [beq_eq_false_iff_ne, ne_eq]
  intro e
  apply h
  cases s
  congr 1
  rw [← e]
set_option maxRecDepth 100000 in
set_option maxHeartbeats 4000000 in
theorem builtin_any (s : ByteArray) (w : World) : Calls Tryz.prog 15 #[.string s] w fun e w' => e = .returned (.int .i64 (builtinV s)) ∧ w = w' := by
  by_cases h1 : s ∈ B1
  · rw [bv_one h1]
    simp only [B1, List.mem_cons, List.not_mem_nil, or_false] at h1
    rcases h1 with rfl | rfl | rfl | rfl | rfl | rfl | rfl
    all_goals
      go_enter Tryz.func15, Tryz.ntmps15
      go_wp2
      go_ret
      exact ⟨rfl, rfl⟩
  · by_cases h2 : s ∈ B2
    · rw [bv_two h1 h2]
      simp only [B2, List.mem_cons, List.not_mem_nil, or_false] at h2
      clear h1
      rcases h2 with rfl | rfl | rfl
      all_goals
        go_enter Tryz.func15, Tryz.ntmps15
        go_wp2
        go_ret
        exact ⟨rfl, rfl⟩
    · rw [bv_no h1 h2]
      simp only [B1, B2, List.mem_cons, List.not_mem_nil, or_false, not_or] at h1 h2
      obtain ⟨a0, a1, a2, a3, a4, a5, a6⟩ := h1
      obtain ⟨c0, c1, c2⟩ := h2
      replace a0 := ne_list a0
      replace a1 := ne_list a1
      replace a2 := ne_list a2
      replace a3 := ne_list a3
      replace a4 := ne_list a4
      replace a5 := ne_list a5
      replace a6 := ne_list a6
      replace c0 := ne_list c0
      replace c1 := ne_list c1
      replace c2 := ne_list c2
      go_enter Tryz.func15, Tryz.ntmps15
      go_wp2
      go_ret
      exact ⟨rfl, rfl⟩
set_option maxRecDepth 100000 in
set_option maxHeartbeats 4000000 in
theorem refBuiltin_any (s : ByteArray) (w : World) : Calls Tryz.prog 38 #[.string s] w fun e w' => e = .returned (.int .i64 (builtinV s)) ∧ w = w' := by
  by_cases h1 : s ∈ B1
  · rw [bv_one h1]
    simp only [B1, List.mem_cons, List.not_mem_nil, or_false] at h1
    rcases h1 with rfl | rfl | rfl | rfl | rfl | rfl | rfl
    all_goals
      go_enter Tryz.func38, Tryz.ntmps38
      go_wp2
      go_ret
      exact ⟨rfl, rfl⟩
  · by_cases h2 : s ∈ B2
    · rw [bv_two h1 h2]
      simp only [B2, List.mem_cons, List.not_mem_nil, or_false] at h2
      clear h1
      rcases h2 with rfl | rfl | rfl
      all_goals
        go_enter Tryz.func38, Tryz.ntmps38
        go_wp2
        go_ret
        exact ⟨rfl, rfl⟩
    · rw [bv_no h1 h2]
      simp only [B1, B2, List.mem_cons, List.not_mem_nil, or_false, not_or] at h1 h2
      obtain ⟨a0, a1, a2, a3, a4, a5, a6⟩ := h1
      obtain ⟨c0, c1, c2⟩ := h2
      replace a0 := ne_list a0
      replace a1 := ne_list a1
      replace a2 := ne_list a2
      replace a3 := ne_list a3
      replace a4 := ne_list a4
      replace a5 := ne_list a5
      replace a6 := ne_list a6
      replace c0 := ne_list c0
      replace c1 := ne_list c1
      replace c2 := ne_list c2
      go_enter Tryz.func38, Tryz.ntmps38
      go_wp2
      go_ret
      exact ⟨rfl, rfl⟩

/-- How much nodes are. -/
def ndN (n : Nd) : Nat := 4 + n.kids.length + n.text.size
def fewN (l : List Nd) : Nat := (l.map ndN).sum
def fewB (l : List Nd) : Bool := decide (fewN l ≤ 20000)
theorem few_take (l : List Nd) (k : Nat) (hk : k < l.length) : fewN (l.take (k + 1)) = fewN (l.take k) + ndN l[k] := by
  unfold fewN
  rw [List.take_succ_eq_append_getElem hk, List.map_append, List.sum_append]
  simp
theorem few_mono (l : List Nd) (k : Nat) : fewN (l.take k) ≤ fewN l := by
  have h : l = l.take k ++ l.drop k := (List.take_append_drop k l).symm
  have : fewN l = fewN (l.take k) + fewN (l.drop k) := by
    conv => lhs; rw [h]
    unfold fewN
    rw [List.map_append, List.sum_append]
  omega
set_option maxRecDepth 100000 in
set_option maxHeartbeats 4000000 in
theorem few_any (l : List Nd) (v : Value) (w : World) (hv : NdsAt w v l) (hok : ∀ n ∈ l, NdOk n) (hlen : l.length ≤ 9223372036854775807) :
    Calls Tryz.prog 7 #[v] w fun e w' => e = .returned (.bool (fewB l)) ∧ Below w.heap.size w w' := by
  obtain ⟨av, cv, rfl⟩ := hv.shape
  have HV := Lib.hid (fun (W : World) (hb : Below w.heap.size w W) => hv.below (Nat.le_refl _) hb)
  have HK := Lib.hid hok
  clear hv hok
  go_enter Tryz.func7, Tryz.ntmps7
  go_wp2
  go_loopw [3, 8] (fun m i wr => ∃ k n : Nat, i = .int .i64 (k : Int) ∧ m = .int .i64 (n : Int) ∧ k ≤ l.length ∧ n ≤ 20000 ∧ Below w.heap.size w wr ∧ Hid (fewN (l.take k) = n)) (fun _ i _ => l.length - (intOf i).toNat)
  case atStart => exact ⟨0, 0, rfl, rfl, by omega, by omega, Below.refl _ _, Lib.hid rfl⟩
  case round =>
    obtain ⟨k, n, rfl, rfl, hk, hn, hB, HN⟩ := hrel
    have HB := Lib.hid hB
    have hszr := hB.size
    clear hB
    by_cases hlt : k < l.length
    · have hi1 : (k : Int) < (l.length : Int) := by omega
      obtain ⟨b, o, kv, rfl, hb, c0, c1, c2, c3, c4⟩ := (HV.out _ HB.out).at k hlt
      have hnk := HK.out l[k] (List.getElem_mem hlt)
      have HT := few_take l k hlt
      rw [HN.out] at HT
      obtain ⟨ak, ck, rfl⟩ := c4.shape
      obtain ⟨h1, h2, -⟩ := hnk
      unfold ndN at HT
      have HMo := few_mono l (k + 1)
      generalize l[k] = t at c0 c1 c2 c3 c4 HT h1 h2
      obtain ⟨t0, t1, t2, t3⟩ := t
      simp only at c0 c1 c2 c3 c4 HT h1 h2
      have HBn := Lib.hid (HB.out.alloc hszr (.cells #[.int .i64 t0, .string t1, .slice ak t2.length ck, .int .i64 t3] 35))
      clear c4
      by_cases h5 : 20000 < n + (4 + t2.length + t1.size)
      · have h5i : (20000 : Int) < (n : Int) + (4 + (t2.length : Int) + (t1.size : Int)) := by omega
        have HF : Hid (fewB l = false) := Lib.hid (by unfold fewB; rw [decide_eq_false (by omega)])
        clear HT HMo
        go_wp2
        go_ret
        exact ⟨by rw [HF.out]; rfl, HBn.out⟩
      · have h5i : ¬ (20000 : Int) < (n : Int) + (4 + (t2.length : Int) + (t1.size : Int)) := by omega
        have HT2 := Lib.hid HT
        clear HT HMo
        go_wp2
        go_roundw
        case rel => exact ⟨k + 1, n + (4 + t2.length + t1.size), by go_num, by go_num, by omega, by omega, HBn.out, HT2⟩
        case measure => simp [intOf]; omega
    · have hkl : k = l.length := by omega
      subst hkl
      have HF : Hid (fewB l = true) := Lib.hid (by
        unfold fewB
        have := HN.out
        rw [List.take_length] at this
        rw [decide_eq_true (by omega)])
      go_wp2
      go_ret
      exact ⟨by rw [HF.out]; rfl, HB.out⟩
end TreeD
end Go.Proofs.YtakdmlaecidjaaaGreatDoor
