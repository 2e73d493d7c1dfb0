/- Which texts are names: the program's answer and the document's. -/
import Derived.Test.YtmdkocegnbcgmaaGreatDoorZ7
import Derived.RegionTactic
import Derived.BigQuiet
import Derived.Outline
import Derived.StillTailTactics
namespace Go.Proofs.YtmdkocegnbcgmaaGreatDoor
open Go.RowKit ObjM
namespace LexD
def WLn : List ByteArray := [⟨#[97, 110, 100]⟩, ⟨#[98, 114, 101, 97, 107]⟩, ⟨#[99, 104, 97, 110, 110, 101, 108]⟩, ⟨#[100, 111]⟩, ⟨#[101, 108, 115, 101]⟩, ⟨#[101, 108, 115, 101, 105, 102]⟩, ⟨#[101, 110, 100]⟩, ⟨#[102, 97, 108, 115, 101]⟩, ⟨#[102, 117, 110, 99, 116, 105, 111, 110]⟩, ⟨#[105, 102]⟩, ⟨#[108, 111, 99, 97, 108]⟩, ⟨#[110, 105, 108]⟩, ⟨#[110, 111, 116]⟩, ⟨#[111, 114]⟩, ⟨#[114, 101, 116, 117, 114, 110]⟩, ⟨#[116, 104, 101, 110]⟩, ⟨#[116, 114, 117, 101]⟩, ⟨#[119, 104, 105, 108, 101]⟩]
/-- The words as the program's text lays them. -/
def WTabN (w : World) : Prop := 1 < w.heap.size ∧ ∀ (i : Nat) (s : ByteArray), WLn[i]? = some s → w.cell? ⟨1, i, none⟩ = some (.string s)
theorem WTabN.below {w w' : World} (h : WTabN w) (hb : Below w.heap.size w w') : WTabN w' := ⟨Nat.lt_of_lt_of_le h.1 hb.size, fun i s hs => (hb.cell (p := ⟨_, i, none⟩) h.1).trans (h.2 i s hs)⟩
def nkey8 (s : ByteArray) : List UInt8 := s.data.toList
def nwordB (n : Nat) (k : List UInt8) : Bool := (WLn.take n).any fun x => nkey8 x == k
/-- The words as a value. -/
def WValN : Value := .agg #[.string ⟨#[97, 110, 100]⟩, .string ⟨#[98, 114, 101, 97, 107]⟩, .string ⟨#[99, 104, 97, 110, 110, 101, 108]⟩, .string ⟨#[100, 111]⟩, .string ⟨#[101, 108, 115, 101]⟩, .string ⟨#[101, 108, 115, 101, 105, 102]⟩, .string ⟨#[101, 110, 100]⟩, .string ⟨#[102, 97, 108, 115, 101]⟩, .string ⟨#[102, 117, 110, 99, 116, 105, 111, 110]⟩, .string ⟨#[105, 102]⟩, .string ⟨#[108, 111, 99, 97, 108]⟩, .string ⟨#[110, 105, 108]⟩, .string ⟨#[110, 111, 116]⟩, .string ⟨#[111, 114]⟩, .string ⟨#[114, 101, 116, 117, 114, 110]⟩, .string ⟨#[116, 104, 101, 110]⟩, .string ⟨#[116, 114, 117, 101]⟩, .string ⟨#[119, 104, 105, 108, 101]⟩]
theorem nindex_word0 (w : World) : (Instr.index 123 WValN (.int .i64 0)).run Tryz.prog w = .ok (.string ⟨#[97, 110, 100]⟩) w := by kernel_rfl
theorem nindex_word1 (w : World) : (Instr.index 123 WValN (.int .i64 1)).run Tryz.prog w = .ok (.string ⟨#[98, 114, 101, 97, 107]⟩) w := by kernel_rfl
theorem nindex_word2 (w : World) : (Instr.index 123 WValN (.int .i64 2)).run Tryz.prog w = .ok (.string ⟨#[99, 104, 97, 110, 110, 101, 108]⟩) w := by kernel_rfl
theorem nindex_word3 (w : World) : (Instr.index 123 WValN (.int .i64 3)).run Tryz.prog w = .ok (.string ⟨#[100, 111]⟩) w := by kernel_rfl
theorem nindex_word4 (w : World) : (Instr.index 123 WValN (.int .i64 4)).run Tryz.prog w = .ok (.string ⟨#[101, 108, 115, 101]⟩) w := by kernel_rfl
theorem nindex_word5 (w : World) : (Instr.index 123 WValN (.int .i64 5)).run Tryz.prog w = .ok (.string ⟨#[101, 108, 115, 101, 105, 102]⟩) w := by kernel_rfl
theorem nindex_word6 (w : World) : (Instr.index 123 WValN (.int .i64 6)).run Tryz.prog w = .ok (.string ⟨#[101, 110, 100]⟩) w := by kernel_rfl
theorem nindex_word7 (w : World) : (Instr.index 123 WValN (.int .i64 7)).run Tryz.prog w = .ok (.string ⟨#[102, 97, 108, 115, 101]⟩) w := by kernel_rfl
theorem nindex_word8 (w : World) : (Instr.index 123 WValN (.int .i64 8)).run Tryz.prog w = .ok (.string ⟨#[102, 117, 110, 99, 116, 105, 111, 110]⟩) w := by kernel_rfl
theorem nindex_word9 (w : World) : (Instr.index 123 WValN (.int .i64 9)).run Tryz.prog w = .ok (.string ⟨#[105, 102]⟩) w := by kernel_rfl
theorem nindex_word10 (w : World) : (Instr.index 123 WValN (.int .i64 10)).run Tryz.prog w = .ok (.string ⟨#[108, 111, 99, 97, 108]⟩) w := by kernel_rfl
theorem nindex_word11 (w : World) : (Instr.index 123 WValN (.int .i64 11)).run Tryz.prog w = .ok (.string ⟨#[110, 105, 108]⟩) w := by kernel_rfl
theorem nindex_word12 (w : World) : (Instr.index 123 WValN (.int .i64 12)).run Tryz.prog w = .ok (.string ⟨#[110, 111, 116]⟩) w := by kernel_rfl
theorem nindex_word13 (w : World) : (Instr.index 123 WValN (.int .i64 13)).run Tryz.prog w = .ok (.string ⟨#[111, 114]⟩) w := by kernel_rfl
theorem nindex_word14 (w : World) : (Instr.index 123 WValN (.int .i64 14)).run Tryz.prog w = .ok (.string ⟨#[114, 101, 116, 117, 114, 110]⟩) w := by kernel_rfl
theorem nindex_word15 (w : World) : (Instr.index 123 WValN (.int .i64 15)).run Tryz.prog w = .ok (.string ⟨#[116, 104, 101, 110]⟩) w := by kernel_rfl
theorem nindex_word16 (w : World) : (Instr.index 123 WValN (.int .i64 16)).run Tryz.prog w = .ok (.string ⟨#[116, 114, 117, 101]⟩) w := by kernel_rfl
theorem nindex_word17 (w : World) : (Instr.index 123 WValN (.int .i64 17)).run Tryz.prog w = .ok (.string ⟨#[119, 104, 105, 108, 101]⟩) w := by kernel_rfl
theorem nindex_word (k : Nat) (hk : k < 18) (w : World) : (Instr.index 123 WValN (.int .i64 (k : Int))).run Tryz.prog w = .ok (.string (WLn.getD k ⟨#[]⟩)) w := by
  have hcase : k = 0 ∨ k = 1 ∨ k = 2 ∨ k = 3 ∨ k = 4 ∨ k = 5 ∨ k = 6 ∨ k = 7 ∨ k = 8 ∨ k = 9 ∨ k = 10 ∨ k = 11 ∨ k = 12 ∨ k = 13 ∨ k = 14 ∨ k = 15 ∨ k = 16 ∨ k = 17 := by omega
  rcases hcase with rfl | rfl | rfl | rfl | rfl | rfl | rfl | rfl | rfl | rfl | rfl | rfl | rfl | rfl | rfl | rfl | rfl | rfl
  · exact nindex_word0 w
  · exact nindex_word1 w
  · exact nindex_word2 w
  · exact nindex_word3 w
  · exact nindex_word4 w
  · exact nindex_word5 w
  · exact nindex_word6 w
  · exact nindex_word7 w
  · exact nindex_word8 w
  · exact nindex_word9 w
  · exact nindex_word10 w
  · exact nindex_word11 w
  · exact nindex_word12 w
  · exact nindex_word13 w
  · exact nindex_word14 w
  · exact nindex_word15 w
  · exact nindex_word16 w
  · exact nindex_word17 w
theorem word_iffN (s : ByteArray) : nwordB 18 (nkey8 s) = true ↔ s ∈ WLn := by
  unfold nwordB nkey8
  rw [show WLn.take 18 = WLn from rfl, List.any_eq_true]
  constructor
  · rintro ⟨x, hx, e⟩
    have e2 : x.data.toList = s.data.toList := by simpa using e
    have : x = s := by
      cases x; cases s
      congr 1
      exact Array.ext' e2
    exact this ▸ hx
  · intro h
    exact ⟨s, h, by simp⟩
theorem ne_listN {s : ByteArray} {l : List UInt8} (h : ¬ s = ⟨l.toArray⟩) : (s.toList == l) = false := by
  rw [ByteArray.toList_eq]
  simp only [beq_eq_false_iff_ne, ne_eq]
  intro e
  apply h
  cases s
  congr 1
  rw [← e]
theorem word_noN {s : ByteArray} (h : nwordB 18 (nkey8 s) = false) : (s.toList == [97, 110, 100]) = false ∧ (s.toList == [98, 114, 101, 97, 107]) = false ∧ (s.toList == [99, 104, 97, 110, 110, 101, 108]) = false ∧ (s.toList == [100, 111]) = false ∧ (s.toList == [101, 108, 115, 101]) = false ∧ (s.toList == [101, 108, 115, 101, 105, 102]) = false ∧ (s.toList == [101, 110, 100]) = false ∧ (s.toList == [102, 97, 108, 115, 101]) = false ∧ (s.toList == [102, 117, 110, 99, 116, 105, 111, 110]) = false ∧ (s.toList == [105, 102]) = false ∧ (s.toList == [108, 111, 99, 97, 108]) = false ∧ (s.toList == [110, 105, 108]) = false ∧ (s.toList == [110, 111, 116]) = false ∧ (s.toList == [111, 114]) = false ∧ (s.toList == [114, 101, 116, 117, 114, 110]) = false ∧ (s.toList == [116, 104, 101, 110]) = false ∧ (s.toList == [116, 114, 117, 101]) = false ∧ (s.toList == [119, 104, 105, 108, 101]) = false := by
  have h1 : ¬ s ∈ WLn := fun hm => by
    rw [(word_iffN s).2 hm] at h
    cases h
  simp only [WLn, List.mem_cons, List.not_mem_nil, or_false, not_or] at h1
  obtain ⟨h0, h1, h2, h3, h4, h5, h6, h7, h8, h9, h10, h11, h12, h13, h14, h15, h16, h17⟩ := h1
  exact ⟨ne_listN h0, ne_listN h1, ne_listN h2, ne_listN h3, ne_listN h4, ne_listN h5, ne_listN h6, ne_listN h7, ne_listN h8, ne_listN h9, ne_listN h10, ne_listN h11, ne_listN h12, ne_listN h13, ne_listN h14, ne_listN h15, ne_listN h16, ne_listN h17⟩
set_option maxRecDepth 100000 in
set_option maxHeartbeats 4000000 in
theorem refWord_anyN (s : ByteArray) (w : World) : Calls Tryz.prog 76 #[.string s] w (BoolIs w (nwordB 18 (nkey8 s))) := by
  cases hb : nwordB 18 (nkey8 s) with
  | false =>
    obtain ⟨h0, h1, h2, h3, h4, h5, h6, h7, h8, h9, h10, h11, h12, h13, h14, h15, h16, h17⟩ := word_noN hb
    clear hb
    go_enter Tryz.func76, Tryz.ntmps76
    go_wp2
    go_ret
    exact ⟨rfl, rfl⟩
  | true =>
    have hm := (word_iffN s).1 hb
    clear hb
    simp only [WLn, List.mem_cons, List.not_mem_nil, or_false] at hm
    rcases hm with rfl | rfl | rfl | rfl | rfl | rfl | rfl | rfl | rfl | rfl | rfl | rfl | rfl | rfl | rfl | rfl | rfl | rfl
    all_goals
      go_enter Tryz.func76, Tryz.ntmps76
      go_wp2
      go_ret
      exact ⟨rfl, rfl⟩
theorem nrunN_list (R : ByteArray) : runN R.data.toList ≤ R.size := by
  have := runN_le R.data.toList
  simpa using this
theorem ndrop_at {s : ByteArray} {p : Nat} (hp : p < s.size) : s.data.toList.drop p = s[p] :: s.data.toList.drop (p + 1) := by
  rw [List.drop_eq_getElem_cons (by simpa using hp)]
  rfl
theorem list_zeroN {R : ByteArray} (h : 0 < R.size) : ∃ r, R.data.toList = R[0] :: r := ⟨R.data.toList.drop 1, by
  have := ndrop_at (s := R) (p := 0) h
  simpa using this⟩
def nameB (s : ByteArray) : Bool := match s.data.toList with
  | [] => false
  | c :: r => letB c.toNat && decide (runN (c :: r) = s.size) && !nwordB 18 (nkey8 s)
theorem name_empty : nameB ⟨#[]⟩ = false := rfl
theorem name_of {s : ByteArray} (h0 : 0 < s.size) : nameB s = (letB s[0].toNat && decide (runN s.data.toList = s.size) && !nwordB 18 (nkey8 s)) := by
  obtain ⟨r, hr⟩ := list_zeroN h0
  unfold nameB
  rw [hr]
theorem empty_no {s : ByteArray} (h0 : 0 < s.size) : s.toList.isEmpty = false := by
  obtain ⟨r, hr⟩ := list_zeroN h0
  rw [ByteArray.toList_eq, hr]
  rfl
theorem size_zero {s : ByteArray} (h : s.size = 0) : s = ⟨#[]⟩ := by
  cases s with
  | mk d =>
    congr 1
    exact Array.eq_empty_of_size_eq_zero h
theorem word_step {s : ByteArray} {k : Nat} (hk : k < 18) (h : nwordB k (nkey8 s) = false) : nwordB (k + 1) (nkey8 s) = ((WLn.getD k ⟨#[]⟩).toList == s.toList) := by
  have hl : k < WLn.length := hk
  have ht : WLn.take (k + 1) = WLn.take k ++ [WLn[k]] := by rw [List.take_succ_eq_append_getElem hl]
  unfold nwordB at h ⊢
  rw [ht, List.any_append, h]
  have : WLn.getD k ⟨#[]⟩ = WLn[k] := by simp [List.getD, hl]
  rw [this, ByteArray.toList_eq, ByteArray.toList_eq]
  simp [nkey8]
theorem word_more {s : ByteArray} {k : Nat} (hk : k ≤ 18) (h : nwordB k (nkey8 s) = true) : nwordB 18 (nkey8 s) = true := by
  unfold nwordB at h ⊢
  rw [List.any_eq_true] at h ⊢
  obtain ⟨x, hx, e⟩ := h
  exact ⟨x, (List.take_subset_take_left WLn hk) hx, e⟩
set_option maxRecDepth 100000 in
set_option maxHeartbeats 8000000 in
theorem name_fn (s : ByteArray) (hs : s.size ≤ 140737488355328) (w : World) (hT : WTabN w) : Calls Tryz.prog 106 #[.string s] w fun e w' => e = .returned (.bool (nameB s)) ∧ Below w.heap.size w w' := by
  by_cases h0 : 0 < s.size
  · have hnm := name_of h0
    have hem := empty_no h0
    have hi0 : (0 : Int) < (s.size : Int) := by omega
    have HL := fun W => Lib.hid (letter_any (s[0].toNat : Int) W)
    have HR := fun W => Lib.hid (run_any s (by omega) W)
    have hrl := nrunN_list s
    have hsz : (s.extract 0 (runN s.data.toList)).size = runN s.data.toList := by simp; omega
    obtain ⟨lb, hlb⟩ : ∃ b, letB s[0].toNat = b := ⟨_, rfl⟩
    rw [hlb] at HL hnm
    cases lb
    · rw [hnm]
      simp only [Bool.false_and]
      clear hnm hlb hsz hrl HR
      go_enter Tryz.func106, Tryz.ntmps106
      go_wp2_with fail
      refine ((HL _).out).mono ?_
      rintro e w1 ⟨rfl, rfl⟩
      go_wp2
      go_ret
      exact ⟨rfl, Below.refl _ _⟩
    · by_cases hr : runN s.data.toList = s.size
      · have hd : decide (runN s.data.toList = s.size) = true := decide_eq_true hr
        rw [hd] at hnm
        simp only [Bool.true_and] at hnm
        rw [hr] at HR hsz
        rw [hnm]
        have c0 := hT.2 0 _ rfl
        have c1 := hT.2 1 _ rfl
        have c2 := hT.2 2 _ rfl
        have c3 := hT.2 3 _ rfl
        have c4 := hT.2 4 _ rfl
        have c5 := hT.2 5 _ rfl
        have c6 := hT.2 6 _ rfl
        have c7 := hT.2 7 _ rfl
        have c8 := hT.2 8 _ rfl
        have c9 := hT.2 9 _ rfl
        have c10 := hT.2 10 _ rfl
        have c11 := hT.2 11 _ rfl
        have c12 := hT.2 12 _ rfl
        have c13 := hT.2 13 _ rfl
        have c14 := hT.2 14 _ rfl
        have c15 := hT.2 15 _ rfl
        have c16 := hT.2 16 _ rfl
        have c17 := hT.2 17 _ rfl
        have gl := hT.1
        clear hT hnm hd hlb hrl hr
        go_enter Tryz.func106, Tryz.ntmps106
        go_wp2_with fail
        refine ((HL _).out).mono ?_
        rintro e w1 ⟨rfl, rfl⟩
        go_wp2_with fail
        refine ((HR _).out).mono ?_
        rintro e w1 ⟨rfl, rfl⟩
        go_wp2
        clear c0 c1 c2 c3 c4 c5 c6 c7 c8 c9 c10 c11 c12 c13 c14 c15 c16 c17 gl HL HR
        go_loopw [22] (fun i wr => ∃ k : Nat, i = .int .i64 k ∧ k ≤ 18 ∧ Hid (wr = w) ∧ Hid (nwordB k (nkey8 s) = false)) (fun i _ => 18 - (intOf i).toNat)
        case atStart => exact ⟨0, rfl, by omega, Lib.hid rfl, Lib.hid rfl⟩
        case round =>
          obtain ⟨k, rfl, hk, HW, HN⟩ := hrel
          obtain rfl := HW.out
          clear HW
          by_cases hlt : k < 18
          · have HI : ∀ W, (Instr.index 123 (.agg #[.string ⟨#[97, 110, 100]⟩, .string ⟨#[98, 114, 101, 97, 107]⟩, .string ⟨#[99, 104, 97, 110, 110, 101, 108]⟩, .string ⟨#[100, 111]⟩, .string ⟨#[101, 108, 115, 101]⟩, .string ⟨#[101, 108, 115, 101, 105, 102]⟩, .string ⟨#[101, 110, 100]⟩, .string ⟨#[102, 97, 108, 115, 101]⟩, .string ⟨#[102, 117, 110, 99, 116, 105, 111, 110]⟩, .string ⟨#[105, 102]⟩, .string ⟨#[108, 111, 99, 97, 108]⟩, .string ⟨#[110, 105, 108]⟩, .string ⟨#[110, 111, 116]⟩, .string ⟨#[111, 114]⟩, .string ⟨#[114, 101, 116, 117, 114, 110]⟩, .string ⟨#[116, 104, 101, 110]⟩, .string ⟨#[116, 114, 117, 101]⟩, .string ⟨#[119, 104, 105, 108, 101]⟩]) (.int .i64 (k : Int))).run Tryz.prog W = .ok (.string (WLn.getD k ⟨#[]⟩)) W := fun W => nindex_word k hlt W
            have HSt := Lib.hid (word_step hlt HN.out)
            have HMo := Lib.hid (word_more (s := s) (k := k + 1) (by omega))
            generalize WLn.getD k ⟨#[]⟩ = wk at HI HSt
            obtain ⟨eb, heb⟩ : ∃ b, (wk.toList == s.toList) = b := ⟨_, rfl⟩
            rw [heb] at HSt
            cases eb
            · go_wp2
              go_roundw
              case rel => exact ⟨k + 1, by go_num, by omega, (by first | exact Lib.hid rfl | exact Lib.hid trivial), HSt⟩
              case measure => simp [intOf]; omega
            · have HF := Lib.hid (HMo.out HSt.out)
              clear HSt HMo
              go_wp2
              go_ret
              rw [HF.out]
              exact ⟨rfl, Below.refl _ _⟩
          · have hk18 : k = 18 := by omega
            subst hk18
            go_wp2
            go_ret
            rw [HN.out]
            exact ⟨rfl, Below.refl _ _⟩
      · have hd : decide (runN s.data.toList = s.size) = false := decide_eq_false hr
        rw [hd] at hnm
        simp only [Bool.and_false, Bool.false_and] at hnm
        rw [hnm]
        have hne : ((runN s.data.toList : Int) != (s.size : Int)) = true := by simp; omega
        generalize runN s.data.toList = rn at *
        clear hnm hd hr
        go_enter Tryz.func106, Tryz.ntmps106
        go_wp2_with fail
        refine ((HL _).out).mono ?_
        rintro e w1 ⟨rfl, rfl⟩
        go_wp2_with fail
        refine ((HR _).out).mono ?_
        rintro e w1 ⟨rfl, rfl⟩
        go_wp2
        go_ret
        exact ⟨rfl, Below.refl _ _⟩
  · have := size_zero (s := s) (by omega)
    subst this
    rw [name_empty]
    go_enter Tryz.func106, Tryz.ntmps106
    go_wp2
    go_ret
    exact ⟨rfl, Below.refl _ _⟩
set_option maxRecDepth 100000 in
set_option maxHeartbeats 8000000 in
theorem refName_fn (s : ByteArray) (hs : s.size ≤ 140737488355328) (w : World) : Calls Tryz.prog 41 #[.string s] w fun e w' => e = .returned (.bool (nameB s)) ∧ Below w.heap.size w w' := by
  by_cases h0 : 0 < s.size
  · have hnm := name_of h0
    have hem := empty_no h0
    have hi0 : (0 : Int) < (s.size : Int) := by omega
    have HL := fun W => Lib.hid (refLetter_any (s[0].toNat : Int) W)
    have HW := fun W => Lib.hid (refWord_anyN s W)
    obtain ⟨lb, hlb⟩ : ∃ b, letB s[0].toNat = b := ⟨_, rfl⟩
    obtain ⟨wb, hwb⟩ : ∃ b, nwordB 18 (nkey8 s) = b := ⟨_, rfl⟩
    rw [hlb] at HL
    rw [hwb] at HW
    rw [hlb, hwb] at hnm
    clear hlb hwb
    cases lb
    · rw [hnm]
      simp only [Bool.false_and]
      clear hnm HW
      go_enter Tryz.func41, Tryz.ntmps41
      go_wp2_with fail
      refine ((HL _).out).mono ?_
      rintro e w1 ⟨rfl, rfl⟩
      go_wp2
      go_ret
      exact ⟨rfl, Below.refl _ _⟩
    · cases wb
      · simp only [Bool.true_and, Bool.not_false, Bool.and_true] at hnm
        rw [hnm]
        have HStop : Hid (∀ k (hk : k < s.size), (∀ j (hj : j < k), parB ((s[j]'(by omega)).toNat : Int) = true) → parB (s[k].toNat : Int) = false → runN s.data.toList = k) := Lib.hid fun k hk ha hs => runN_stop (l := s.data.toList) (by simpa using hk) (fun j hj => ha j hj) hs
        have HAll : Hid ((∀ j (hj : j < s.size), parB (s[j].toNat : Int) = true) → runN s.data.toList = s.size) := Lib.hid fun ha => by
          have := runN_all (l := s.data.toList) fun j hj => ha j (by simpa using hj)
          simpa using this
        generalize runN s.data.toList = m at HStop HAll ⊢
        clear hnm
        go_enter Tryz.func41, Tryz.ntmps41
        go_wp2_with fail
        refine ((HL _).out).mono ?_
        rintro e w1 ⟨rfl, rfl⟩
        go_wp2_with fail
        refine ((HW _).out).mono ?_
        rintro e w1 ⟨rfl, rfl⟩
        go_wp2
        clear HL HW
        go_loop [3] (fun i => ∃ k : Nat, i = .int .i64 k ∧ k ≤ s.size ∧ Hid (∀ j (hj : j < k) (hk : j < s.size), parB (s[j].toNat : Int) = true)) (fun i => s.size - (intOf i).toNat)
        case atStart => exact ⟨0, rfl, Nat.zero_le _, Lib.hid (fun j hj => by omega)⟩
        case round =>
          obtain ⟨k, rfl, hk, HF⟩ := hrel
          by_cases hlt : k < s.size
          · have HP := fun W => Lib.hid (refPart_any (s[k].toNat : Int) W)
            obtain ⟨pb, hpb⟩ : ∃ b, parB (s[k].toNat : Int) = b := ⟨_, rfl⟩
            rw [hpb] at HP
            have HPb := Lib.hid hpb
            have HG : Hid (parB (s[k].toNat : Int) = true → ∀ j (hj : j < k + 1) (hk : j < s.size), parB (s[j].toNat : Int) = true) := Lib.hid fun h j hj hjs => by
              by_cases hjk : j < k
              · exact HF.out j hjk hjs
              · have : j = k := by omega
                subst this
                exact h
            clear hpb
            cases pb
            · have HR := Lib.hid (HStop.out k hlt (fun j hj => HF.out j hj (by omega)) HPb.out)
              clear HStop HAll HG
              go_wp2_with fail
              refine ((HP _).out).mono ?_
              rintro e w1 ⟨rfl, rfl⟩
              go_wp2
              go_ret
              refine ⟨?_, Below.refl _ _⟩
              rw [HR.out, decide_eq_false (by omega)]
              rfl
            · have HF2 := Lib.hid (HG.out HPb.out)
              clear HStop HAll HG
              go_wp2_with fail
              refine ((HP _).out).mono ?_
              rintro e w1 ⟨rfl, rfl⟩
              go_wp2
              go_round
              case rel => exact ⟨k + 1, by go_num, by omega, HF2⟩
              case measure => simp [intOf]; omega
          · have hks : k = s.size := by omega
            have HR := Lib.hid (HAll.out (fun j hj => HF.out j (by omega) hj))
            clear HStop HAll
            subst hks
            go_wp2
            go_ret
            refine ⟨?_, Below.refl _ _⟩
            rw [HR.out, decide_eq_true rfl]
            rfl
      · simp only [Bool.not_true, Bool.and_false] at hnm
        rw [hnm]
        clear hnm
        go_enter Tryz.func41, Tryz.ntmps41
        go_wp2_with fail
        refine ((HL _).out).mono ?_
        rintro e w1 ⟨rfl, rfl⟩
        go_wp2_with fail
        refine ((HW _).out).mono ?_
        rintro e w1 ⟨rfl, rfl⟩
        go_wp2
        go_ret
        exact ⟨rfl, Below.refl _ _⟩
  · have := size_zero (s := s) (by omega)
    subst this
    rw [name_empty]
    go_enter Tryz.func41, Tryz.ntmps41
    go_wp2
    go_ret
    exact ⟨rfl, Below.refl _ _⟩
end LexD
end Go.Proofs.YtmdkocegnbcgmaaGreatDoor
