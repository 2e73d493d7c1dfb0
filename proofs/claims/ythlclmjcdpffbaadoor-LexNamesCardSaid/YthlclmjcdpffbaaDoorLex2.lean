/- The scanner: what it is; a new one. -/
import Derived.Test.YthlclmjcdpffbaaDoorLex1
import Derived.DeepKeys5
import Derived.Maps.OwnSet
import Derived.Maps.AppendAt
import Derived.Carry
import Derived.RegionTactic
import Derived.BigQuiet
import Derived.Outline
import Derived.Deep.RegionHeld3
import Derived.StillTailTactics
namespace Go.Proofs.YthlclmjcdpffbaaDoor
open Go.RowKit ObjM Go.Maps
namespace LexD

theorem keyedStr : Keyed Tryd.prog 9 := string_keyed Tryd.underlying9
def WL : List ByteArray := [⟨#[97, 110, 100]⟩, ⟨#[98, 114, 101, 97, 107]⟩, ⟨#[99, 104, 97, 110, 110, 101, 108]⟩, ⟨#[100, 111]⟩, ⟨#[101, 108, 115, 101]⟩, ⟨#[101, 108, 115, 101, 105, 102]⟩, ⟨#[101, 110, 100]⟩, ⟨#[102, 97, 108, 115, 101]⟩, ⟨#[102, 117, 110, 99, 116, 105, 111, 110]⟩, ⟨#[105, 102]⟩, ⟨#[108, 111, 99, 97, 108]⟩, ⟨#[110, 105, 108]⟩, ⟨#[110, 111, 116]⟩, ⟨#[111, 114]⟩, ⟨#[114, 101, 116, 117, 114, 110]⟩, ⟨#[116, 104, 101, 110]⟩, ⟨#[116, 114, 117, 101]⟩, ⟨#[119, 104, 105, 108, 101]⟩]
/-- The words as the program's text lays them. -/
def WTab (w : World) : Prop := 0 < w.heap.size ∧ ∀ (i : Nat) (s : ByteArray), WL[i]? = some s → w.cell? ⟨0, i, none⟩ = some (.string s)
theorem WTab.below {w w' : World} (h : WTab w) (hb : Below w.heap.size w w') : WTab w' := ⟨Nat.lt_of_lt_of_le h.1 hb.size, fun i s hs => (hb.cell (p := ⟨_, i, none⟩) h.1).trans (h.2 i s hs)⟩
def key8 (s : ByteArray) : List UInt8 := s.data.toList
def wordB (n : Nat) (k : List UInt8) : Bool := (WL.take n).any fun x => key8 x == k
theorem key_str (s : ByteArray) (hs : s.size ≤ 140737488355328) : keyOf Tryd.prog 9 (.string s) = some (.string (key8 s)) := Go.WideMaps.keyOf_string_mk Tryd.underlying9 (by unfold maxLen; omega)
/-- Block m is a map of the first n words. -/
def WordsOk (w : World) (m n : Nat) : Prop := ∃ (D : DataW Unit), w.ownsMap Tryd.prog 9 (plainElem Tryd.prog 3) m n D ∧ ∀ k : List UInt8, Maps.has D (.string k) = wordB n k
theorem WordsOk.block {w w' : World} {m n : Nat} (h : WordsOk w m n) (hk : w'.heap[m]? = w.heap[m]?) : WordsOk w' m n := by
  obtain ⟨D, ⟨es, cl, hb, h3⟩, hq⟩ := h
  exact ⟨D, ⟨es, cl, hk.trans hb, h3⟩, hq⟩
theorem WordsOk.lt {w : World} {m n : Nat} (h : WordsOk w m n) : m < w.heap.size := by
  obtain ⟨D, hD, _⟩ := h
  exact hD.lt
theorem WordsOk.ne {w : World} {m n G : Nat} {t : TypeId} {cs : List Value} (h : WordsOk w m n) (hG : Has w G t cs) : m ≠ G := by
  obtain ⟨D, ⟨es, cl, hb, _⟩, _⟩ := h
  rintro rfl
  rw [show w.heap[m]? = _ from hG] at hb
  cases hb
theorem wf_i64 {n : Int} (h : -9223372036854775808 ≤ n ∧ n ≤ 9223372036854775807) : (Lit.int .i64 n).wf = true := by
  simp [Lit.wf]
  exact ⟨h.1, h.2⟩
theorem zeroInt (w : World) : (zeroValue 3).run Tryd.prog w = .ok (.int .i64 0) w := by kernel_rfl
theorem put_word {w : World} {m n : Nat} (h : WordsOk w m n) (hn : n < 18) (s : ByteArray) (hs : WL[n]? = some s) :
    ∃ w', (Instr.mapUpdate 62 (.map (some m)) (.string s) (.int .i64 (n : Int))).run Tryd.prog w = .ok () w' ∧ WordsOk w' m (n + 1) ∧ w.mapTurned w' m := by
  have hsz : s.size ≤ 140737488355328 := by
    have : ∀ x ∈ WL, x.size ≤ 140737488355328 := by decide
    exact this s (List.mem_of_getElem? hs)
  have hkl := key_str s hsz
  obtain ⟨D, hD, hq⟩ := h
  obtain ⟨w', hrun, hD', hm⟩ := hD.store keyedStr Tryd.underlying62 (by unfold maxLen; omega) hkl (plainElem_int Tryd.underlying3 (wf_i64 (n := (n : Int)) ⟨by omega, by omega⟩))
  refine ⟨w', hrun, ⟨_, hD', fun k => ?_⟩, hm⟩
  have hmap := hD.isMap
  have hkk := keyedStr.key hkl
  have ht : WL.take (n + 1) = WL.take n ++ [s] := by rw [List.take_add_one, hs]; rfl
  unfold wordB
  rw [ht, List.any_append]
  by_cases e : k = key8 s
  · subst e
    rw [Maps.has_put_same hmap hkk _]
    simp
  · have hne : Lit.string k ≠ Lit.string (key8 s) := fun h => e (by injection h)
    rw [Maps.has_put_other hne, hq k]
    unfold wordB
    have : (key8 s == k) = false := by simpa using fun h => e h.symm
    simp [this]
theorem look_word {w : World} {m : Nat} (h : WordsOk w m 18) (s : ByteArray) (hs : s.size ≤ 140737488355328) :
    ∃ c : Int, (Instr.lookup 62 (.map (some m)) (.string s) true).run Tryd.prog w = .ok (.tuple #[.int .i64 c, .bool (wordB 18 (key8 s))]) w := by
  have hkl := key_str s hs
  obtain ⟨D, hD, hq⟩ := h
  obtain ⟨u, ps, hrun, hu⟩ := hD.look_ok keyedStr Tryd.underlying62 (zeroInt w) (plainElem_int Tryd.underlying3 (by decide)) hkl
  obtain ⟨a, rfl, hz, _⟩ := plainElem_int_inv Tryd.underlying3 hu
  exact ⟨a, by rw [hrun, hq]⟩
/-- A token. -/
structure Tok where
  kind : Int
  text : ByteArray
  lo : Int
  hi : Int
  n : Int
def Tok.cells (t : Tok) : List Value := [.int .i64 t.kind, .string t.text, .int .i64 t.lo, .int .i64 t.hi, .int .i64 t.n]
def rowT (ts : List Tok) : List Value := ts.flatMap Tok.cells
theorem rowT_len (ts : List Tok) : (rowT ts).length = ts.length * 5 := by
  induction ts with
  | nil => rfl
  | cons a r ih => simp [rowT, Tok.cells] at ih ⊢; omega
theorem rowT_snoc (ts : List Tok) (t : Tok) : rowT (ts ++ [t]) = rowT ts ++ t.cells := by simp [rowT]
/-- The scanner at block P, its words at block m. -/
structure ScAt (w : World) (B P m : Nat) (s : ByteArray) (at_ : Int) (ts : List Tok) (tv : Value) : Prop where
  obj : Has w P 64 [.string s, .int .i64 at_, .map (some m), tv]
  row : w.ownsRow B 36 5 tv ts.length (rowT ts)
  words : WordsOk w m 18
  ge : B ≤ P
  gem : B ≤ m
theorem ScAt.keeps {w w' : World} {B P m : Nat} {s : ByteArray} {at_ : Int} {ts : List Tok} {tv : Value} (h : ScAt w B P m s at_ ts tv) (k : Keeps [] w w') : ScAt w' B P m s at_ ts tv :=
  ⟨h.obj.keeps k (by simp), own_keeps h.row k (by simp), h.words.block (k.block m h.words.lt (by simp)), h.ge, h.gem⟩
theorem ScAt.below {w w' : World} {B P m : Nat} {s : ByteArray} {at_ : Int} {ts : List Tok} {tv : Value} (h : ScAt w B P m s at_ ts tv) (hb : Below w.heap.size w w') : ScAt w' B P m s at_ ts tv := h.keeps (Keeps.below' hb [])
def NewIs (w : World) (s : ByteArray) (e : Ending) (w' : World) : Prop := ∃ P m, e = .returned (.pointer (some ⟨P, 0, none⟩)) ∧ ScAt w' w.heap.size P m s 0 [] (.slice none 0 0) ∧ Below w.heap.size w w'
theorem sizeStr (w : World) : (sizeOf 9).run Tryd.prog w = .ok 1 w := by kernel_rfl
/-- The words as a value. -/
def WVal : Value := .agg #[.string ⟨#[97, 110, 100]⟩, .string ⟨#[98, 114, 101, 97, 107]⟩, .string ⟨#[99, 104, 97, 110, 110, 101, 108]⟩, .string ⟨#[100, 111]⟩, .string ⟨#[101, 108, 115, 101]⟩, .string ⟨#[101, 108, 115, 101, 105, 102]⟩, .string ⟨#[101, 110, 100]⟩, .string ⟨#[102, 97, 108, 115, 101]⟩, .string ⟨#[102, 117, 110, 99, 116, 105, 111, 110]⟩, .string ⟨#[105, 102]⟩, .string ⟨#[108, 111, 99, 97, 108]⟩, .string ⟨#[110, 105, 108]⟩, .string ⟨#[110, 111, 116]⟩, .string ⟨#[111, 114]⟩, .string ⟨#[114, 101, 116, 117, 114, 110]⟩, .string ⟨#[116, 104, 101, 110]⟩, .string ⟨#[116, 114, 117, 101]⟩, .string ⟨#[119, 104, 105, 108, 101]⟩]
theorem index_word0 (w : World) : (Instr.index 47 WVal (.int .i64 0)).run Tryd.prog w = .ok (.string ⟨#[97, 110, 100]⟩) w := by kernel_rfl
theorem index_word1 (w : World) : (Instr.index 47 WVal (.int .i64 1)).run Tryd.prog w = .ok (.string ⟨#[98, 114, 101, 97, 107]⟩) w := by kernel_rfl
theorem index_word2 (w : World) : (Instr.index 47 WVal (.int .i64 2)).run Tryd.prog w = .ok (.string ⟨#[99, 104, 97, 110, 110, 101, 108]⟩) w := by kernel_rfl
theorem index_word3 (w : World) : (Instr.index 47 WVal (.int .i64 3)).run Tryd.prog w = .ok (.string ⟨#[100, 111]⟩) w := by kernel_rfl
theorem index_word4 (w : World) : (Instr.index 47 WVal (.int .i64 4)).run Tryd.prog w = .ok (.string ⟨#[101, 108, 115, 101]⟩) w := by kernel_rfl
theorem index_word5 (w : World) : (Instr.index 47 WVal (.int .i64 5)).run Tryd.prog w = .ok (.string ⟨#[101, 108, 115, 101, 105, 102]⟩) w := by kernel_rfl
theorem index_word6 (w : World) : (Instr.index 47 WVal (.int .i64 6)).run Tryd.prog w = .ok (.string ⟨#[101, 110, 100]⟩) w := by kernel_rfl
theorem index_word7 (w : World) : (Instr.index 47 WVal (.int .i64 7)).run Tryd.prog w = .ok (.string ⟨#[102, 97, 108, 115, 101]⟩) w := by kernel_rfl
theorem index_word8 (w : World) : (Instr.index 47 WVal (.int .i64 8)).run Tryd.prog w = .ok (.string ⟨#[102, 117, 110, 99, 116, 105, 111, 110]⟩) w := by kernel_rfl
theorem index_word9 (w : World) : (Instr.index 47 WVal (.int .i64 9)).run Tryd.prog w = .ok (.string ⟨#[105, 102]⟩) w := by kernel_rfl
theorem index_word10 (w : World) : (Instr.index 47 WVal (.int .i64 10)).run Tryd.prog w = .ok (.string ⟨#[108, 111, 99, 97, 108]⟩) w := by kernel_rfl
theorem index_word11 (w : World) : (Instr.index 47 WVal (.int .i64 11)).run Tryd.prog w = .ok (.string ⟨#[110, 105, 108]⟩) w := by kernel_rfl
theorem index_word12 (w : World) : (Instr.index 47 WVal (.int .i64 12)).run Tryd.prog w = .ok (.string ⟨#[110, 111, 116]⟩) w := by kernel_rfl
theorem index_word13 (w : World) : (Instr.index 47 WVal (.int .i64 13)).run Tryd.prog w = .ok (.string ⟨#[111, 114]⟩) w := by kernel_rfl
theorem index_word14 (w : World) : (Instr.index 47 WVal (.int .i64 14)).run Tryd.prog w = .ok (.string ⟨#[114, 101, 116, 117, 114, 110]⟩) w := by kernel_rfl
theorem index_word15 (w : World) : (Instr.index 47 WVal (.int .i64 15)).run Tryd.prog w = .ok (.string ⟨#[116, 104, 101, 110]⟩) w := by kernel_rfl
theorem index_word16 (w : World) : (Instr.index 47 WVal (.int .i64 16)).run Tryd.prog w = .ok (.string ⟨#[116, 114, 117, 101]⟩) w := by kernel_rfl
theorem index_word17 (w : World) : (Instr.index 47 WVal (.int .i64 17)).run Tryd.prog w = .ok (.string ⟨#[119, 104, 105, 108, 101]⟩) w := by kernel_rfl
theorem index_word (k : Nat) (hk : k < 18) (w : World) : (Instr.index 47 WVal (.int .i64 (k : Int))).run Tryd.prog w = .ok (.string (WL.getD k ⟨#[]⟩)) w := by
  have hcase : k = 0 ∨ k = 1 ∨ k = 2 ∨ k = 3 ∨ k = 4 ∨ k = 5 ∨ k = 6 ∨ k = 7 ∨ k = 8 ∨ k = 9 ∨ k = 10 ∨ k = 11 ∨ k = 12 ∨ k = 13 ∨ k = 14 ∨ k = 15 ∨ k = 16 ∨ k = 17 := by omega
  rcases hcase with rfl | rfl | rfl | rfl | rfl | rfl | rfl | rfl | rfl | rfl | rfl | rfl | rfl | rfl | rfl | rfl | rfl | rfl
  · exact index_word0 w
  · exact index_word1 w
  · exact index_word2 w
  · exact index_word3 w
  · exact index_word4 w
  · exact index_word5 w
  · exact index_word6 w
  · exact index_word7 w
  · exact index_word8 w
  · exact index_word9 w
  · exact index_word10 w
  · exact index_word11 w
  · exact index_word12 w
  · exact index_word13 w
  · exact index_word14 w
  · exact index_word15 w
  · exact index_word16 w
  · exact index_word17 w
set_option maxRecDepth 100000 in
set_option maxHeartbeats 8000000 in
theorem new_any (s : ByteArray) (w : World) (hW : WTab w) : Calls Tryd.prog 21 #[.string s] w (NewIs w s) := by
  have c0 := hW.2 0 _ rfl
  have c1 := hW.2 1 _ rfl
  have c2 := hW.2 2 _ rfl
  have c3 := hW.2 3 _ rfl
  have c4 := hW.2 4 _ rfl
  have c5 := hW.2 5 _ rfl
  have c6 := hW.2 6 _ rfl
  have c7 := hW.2 7 _ rfl
  have c8 := hW.2 8 _ rfl
  have c9 := hW.2 9 _ rfl
  have c10 := hW.2 10 _ rfl
  have c11 := hW.2 11 _ rfl
  have c12 := hW.2 12 _ rfl
  have c13 := hW.2 13 _ rfl
  have c14 := hW.2 14 _ rfl
  have c15 := hW.2 15 _ rfl
  have c16 := hW.2 16 _ rfl
  have c17 := hW.2 17 _ rfl
  have gl := hW.1
  have HWT := Lib.hid hW
  have hmm := @run_makeMap Tryd.prog
  have HW0 : Hid (WordsOk ((w.alloc (.map #[] 0)).alloc (.cells #[.string s, .int .i64 0, .map (some w.heap.size), .slice none 0 0] 64)) w.heap.size 0) := Lib.hid (by
    have h1 := World.ownsMap_made (H := Unit) w Tryd.prog 9 (plainElem Tryd.prog 3)
    exact ⟨_, h1.alloc _, fun k => rfl⟩)
  have HP0 : Hid (Has ((w.alloc (.map #[] 0)).alloc (.cells #[.string s, .int .i64 0, .map (some w.heap.size), .slice none 0 0] 64)) (w.heap.size + 1) 64 [.string s, .int .i64 0, .map (some w.heap.size), .slice none 0 0]) := Lib.hid (by
    have := Has.new (w.alloc (.map #[] 0)) 64 [.string s, .int .i64 0, .map (some w.heap.size), .slice none 0 0]
    simpa using this)
  have HB0 := Lib.hid (((Below.refl w.heap.size w).alloc (Nat.le_refl _) (.map #[] 0)).alloc (by simp) (.cells #[.string s, .int .i64 0, .map (some w.heap.size), .slice none 0 0] 64))
  clear hW
  go_enter Tryd.func21, Tryd.ntmps21
  go_wp2
  clear c0 c1 c2 c3 c4 c5 c6 c7 c8 c9 c10 c11 c12 c13 c14 c15 c16 c17 gl hmm
  go_loopw [11] (fun i wr => ∃ k : Nat, i = .int .i64 k ∧ k ≤ 18 ∧ Hid (WordsOk wr w.heap.size k) ∧ Hid (Has wr (w.heap.size + 1) 64 [.string s, .int .i64 0, .map (some w.heap.size), .slice none 0 0]) ∧ Hid (Below w.heap.size w wr)) (fun i _ => 18 - (intOf i).toNat)
  case atStart => exact ⟨0, rfl, by omega, HW0, HP0, HB0⟩
  case round =>
    obtain ⟨k, rfl, hk, HWk, HP, HB⟩ := hrel
    have p2 := HP.out.cell 2
    have pl := HP.out.lt
    simp only [List.getElem?_cons_zero, List.getElem?_cons_succ] at p2
    by_cases hlt : k < 18
    · have HI : ∀ W, (Instr.index 47 (.agg #[.string ⟨#[97, 110, 100]⟩, .string ⟨#[98, 114, 101, 97, 107]⟩, .string ⟨#[99, 104, 97, 110, 110, 101, 108]⟩, .string ⟨#[100, 111]⟩, .string ⟨#[101, 108, 115, 101]⟩, .string ⟨#[101, 108, 115, 101, 105, 102]⟩, .string ⟨#[101, 110, 100]⟩, .string ⟨#[102, 97, 108, 115, 101]⟩, .string ⟨#[102, 117, 110, 99, 116, 105, 111, 110]⟩, .string ⟨#[105, 102]⟩, .string ⟨#[108, 111, 99, 97, 108]⟩, .string ⟨#[110, 105, 108]⟩, .string ⟨#[110, 111, 116]⟩, .string ⟨#[111, 114]⟩, .string ⟨#[114, 101, 116, 117, 114, 110]⟩, .string ⟨#[116, 104, 101, 110]⟩, .string ⟨#[116, 114, 117, 101]⟩, .string ⟨#[119, 104, 105, 108, 101]⟩]) (.int .i64 (k : Int))).run Tryd.prog W = .ok (.string (WL.getD k ⟨#[]⟩)) W := fun W => index_word k hlt W
      have hwk : WL[k]? = some (WL.getD k ⟨#[]⟩) := by
        have : k < WL.length := hlt
        simp [this]
      obtain ⟨w9, hup, hw9, hm9⟩ := put_word HWk.out (by omega) _ hwk
      have HW9 := Lib.hid hw9
      have HP9 := Lib.hid (HP.out.keeps (Keeps.grown hm9.grown) (by simp))
      have HB9 := Lib.hid (HB.out.grown hm9.grown HB.out.size (by simp))
      generalize WL.getD k ⟨#[]⟩ = ws at hup HI
      clear hw9 hm9 hwk
      go_wp2
      go_roundw
      case rel => exact ⟨_, by go_num, by omega, HW9, HP9, HB9⟩
      case measure => simp [intOf]; omega
    · have : k = 18 := by omega
      subst this
      go_wp2
      go_ret
      exact ⟨w.heap.size + 1, w.heap.size, rfl, ⟨HP.out, World.ownsRow_nil _ _ _ _, HWk.out, by omega, Nat.le_refl _⟩, HB.out⟩
end LexD
end Go.Proofs.YthlclmjcdpffbaaDoor
